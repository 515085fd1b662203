/-
  For every slice of bytes, the law of restrictions returns true: tables are joined from both restrictions, permutations and shifts keep the ones and are undone, reduced tables have the variables that matter. No condition of its own: the law itself asks nothing of slices longer than 1048576 bytes.
-/
import Derived.Test.YtecakbjcnabpnaaRows
import Derived.WalkKit
import Derived.ProofKit
import Derived.OpenShut
import Derived.ShutString
import Derived.Carry
import Derived.Below
import Derived.Lib.SmallJoins
import Derived.Test.YtecakbjcnabpnaaResR1
import Derived.Test.YtecakbjcnabpnaaResL
import Derived.Test.YtecakbjcnabpnaaDrawG
import Derived.Test.YtecakbjcnabpnaaDrawJ
import Derived.Test.YtecakbjcnabpnaaDrawK
import Derived.Deep.RegionHeld3
import Derived.Deep.DeepCutAuto
import Derived.Deep.DrawnRows
namespace Go.Proofs.Ytecakbjcnabpnaa.fnRestrictions
open Go.ChangeShapes Go.WideShapes Go.ChangeAt Go.RowKit
open Go.ChangeMaps (open_string shut_string)
open Go.Joins
set_option linter.unusedVariables false

theorem own : ownKnob Try.prog.godebug = none := by kernel_rfl
theorem laidOut : laidOutB Try.prog = true := by kernel_rfl

open Plain
attribute [local go_sem ↓] Go.wp_at_zero Go.wp_at_succ

/-- A slice of integers that came in: it is nil, or it leads to a row of 'cap' cells, the numbers 'zs', each fitting its kind. -/
def IsRow (k : IntKind) (w : World) (a : Option Addr) (len cap : Nat) (zs : List Int) : Prop :=
  (a = none ∧ len = 0 ∧ cap = 0 ∧ zs = []) ∨
  ∃ x, a = some x ∧ len ≤ cap ∧ cap ≤ maxLen ∧ zs.length = cap ∧ (∀ i, i < zs.length → w.cell? (x.add i) = some (.int k (zs.getD i 0))) ∧ ∀ n ∈ zs, (Lit.int k n).wf = true

theorem codeIn {w : World} {a : Option Addr} {len cap : Nat} {zs : List Int} (h : IsRow .u8 w a len cap zs) (hl : (len : Int) ≤ 1048576) : CodeIn w (.slice a len cap) len := by
  refine ⟨a, cap, rfl, by omega, fun h0 => ?_⟩
  rcases h with ⟨_, rfl, _⟩ | ⟨x, rfl, hlc, hm, hz, hcell, hwf⟩
  · omega
  · obtain ⟨ab, off, spot⟩ := x
    have hc := hcell 0 (by omega)
    have hspot : spot = none := by simpa [Addr.add] using World.cell?_spot hc
    subst hspot
    have hlt := World.block_lt_of_cell? w _ hc
    refine ⟨ab, off, rfl, by simpa [Addr.add] using hlt, fun j hj => ?_⟩
    have hj' : j < zs.length := by omega
    have hb := hwf (zs.getD j 0) (by simp [List.getD, hj'])
    have e1 : IntKind.u8.min = 0 := rfl
    have e2 : IntKind.u8.max = 255 := rfl
    simp only [Lit.wf, Bool.and_eq_true, decide_eq_true_eq, e1, e2] at hb
    have hadd : (⟨ab, off, none⟩ : Addr).add j = ⟨ab, off + j, none⟩ := by unfold Addr.add; split <;> simp_all
    exact ⟨zs.getD j 0, hb.1, hb.2, hadd ▸ hcell j hj'⟩

theorem up2k (i : Nat) (hi : i < 5) : IntKind.i64.wrap ((2 : Int) ^ i) = ((2 ^ i : Nat) : Int) := by
  rcases (show i = 0 ∨ i = 1 ∨ i = 2 ∨ i = 3 ∨ i = 4 by omega) with rfl | rfl | rfl | rfl | rfl <;> decide +kernel

theorem up2c (b i : Nat) (hi : i < 5) (hb : b < 2) : IntKind.i64.wrap ((b : Int) * (2 : Int) ^ i) = ((b * 2 ^ i : Nat) : Int) := by
  rcases (show b = 0 ∨ b = 1 by omega) with rfl | rfl <;> rcases (show i = 0 ∨ i = 1 ∨ i = 2 ∨ i = 3 ∨ i = 4 by omega) with rfl | rfl | rfl | rfl | rfl <;> decide +kernel

set_option maxRecDepth 100000 in
set_option maxHeartbeats 8000000 in
theorem walk (a0 : Option Addr) (len0 cap0 : Nat) (z0 : List Int) (W : World) (w0 : IsRow .u8 W a0 len0 cap0 z0) :
    Calls Try.prog 3 #[.slice a0 len0 cap0] W fun e w' => e = .returned (.bool true) ∧ Below W.heap.size W w' := by
  by_cases hlen : (len0 : Int) ≤ 1048576
  · have CODE := Lib.hid (codeIn w0 hlen)
    have HB := Lib.hid (Big.no a0 len0 cap0 hlen)
    clear w0 hlen
    go_enter Try.func3, Try.ntmps3
    go_wp2_with fail
    refine (HB.out _).mono ?_
    rintro e w1 ⟨rfl, rfl⟩
    go_wp2_with fail
    refine (Draw.restrict _ len0 _ CODE.out).mono ?_
    rintro e w1 ⟨n, a, i, b, rfl, hn, ha, hi, hb, hb1⟩
    have HA64 := Lib.hid ha
    have B1 := Lib.hid (bA hb1.size hb1 (o := .cells #[.int .i64 n, .int .i64 a] 25))
    have f0 : (w1.alloc (.cells #[.int .i64 n, .int .i64 a] 25)).cell? ⟨w1.heap.size, 0, none⟩ = some (.int .i64 n) := keepN rfl rfl
    have f1 : (w1.alloc (.cells #[.int .i64 n, .int .i64 a] 25)).cell? ⟨w1.heap.size, 1, none⟩ = some (.int .i64 a) := keepN rfl rfl
    have hs1 := hb1.size
    have HI := Lib.hid (Tab.resI n a i b ha)
    have HM := Lib.hid (Tab.resM n a i b)
    generalize hr : resT n a i b = r at HI HM
    have HR := Lib.hid hr
    clear hn ha hi hb hb1 hr
    go_wp2_with fail
    refine (HI.out _).mono ?_
    rintro e w2 ⟨rfl, hb2⟩
    have hs2 : w1.heap.size + 1 ≤ w2.heap.size := by simpa using hb2.size
    have B2 := Lib.hid (bA (o := .cells #[.int .i64 r.1, .int .i64 r.2.1] 25) (by have := B1.out.size; simp at this; omega) (B1.out.trans (hb2.mono B1.out.size)))
    replace f0 := keepA (o := .cells #[.int .i64 r.1, .int .i64 r.2.1] 25) (keepB hb2 f0)
    replace f1 := keepA (o := .cells #[.int .i64 r.1, .int .i64 r.2.1] 25) (keepB hb2 f1)
    have g0 : (w2.alloc (.cells #[.int .i64 r.1, .int .i64 r.2.1] 25)).cell? ⟨w2.heap.size, 0, none⟩ = some (.int .i64 r.1) := keepN rfl rfl
    have g1 : (w2.alloc (.cells #[.int .i64 r.1, .int .i64 r.2.1] 25)).cell? ⟨w2.heap.size, 1, none⟩ = some (.int .i64 r.2.1) := keepN rfl rfl
    clear hb2
    go_wp2_with fail
    refine (HM.out _).mono ?_
    rintro e w3 ⟨rfl, hb3⟩
    have hs3 : w2.heap.size + 1 ≤ w3.heap.size := by simpa using hb3.size
    have B3 := Lib.hid (bA (o := .cells #[.int .i64 r.1, .int .i64 r.2.1] 25) (by have := B2.out.size; simp at this; omega) (B2.out.trans (hb3.mono B2.out.size)))
    replace f0 := keepA (o := .cells #[.int .i64 r.1, .int .i64 r.2.1] 25) (keepB hb3 f0)
    replace f1 := keepA (o := .cells #[.int .i64 r.1, .int .i64 r.2.1] 25) (keepB hb3 f1)
    replace g0 := keepA (o := .cells #[.int .i64 r.1, .int .i64 r.2.1] 25) (keepB hb3 g0)
    replace g1 := keepA (o := .cells #[.int .i64 r.1, .int .i64 r.2.1] 25) (keepB hb3 g1)
    have h0 : (w3.alloc (.cells #[.int .i64 r.1, .int .i64 r.2.1] 25)).cell? ⟨w3.heap.size, 0, none⟩ = some (.int .i64 r.1) := keepN rfl rfl
    have h1 : (w3.alloc (.cells #[.int .i64 r.1, .int .i64 r.2.1] 25)).cell? ⟨w3.heap.size, 1, none⟩ = some (.int .i64 r.2.1) := keepN rfl rfl
    clear hb3
    go_upto_if 77 with fail
    go_cut [2] (fun s wx => s = .bool false ∧ Below W.heap.size W wx)
    case first => as_aux_lemma =>
      by_cases hv : isT n a = true ∧ (0 ≤ i ∧ i ≤ n - 1) ∧ (0 ≤ b ∧ b ≤ 1)
      · obtain ⟨ht, hi, hb⟩ := hv
        obtain ⟨n, a, rfl, rfl, hn5, hfull⟩ := isT_nat ht
        obtain ⟨i, rfl⟩ := Int.eq_ofNat_of_zero_le hi.1
        obtain ⟨b, rfl⟩ := Int.eq_ofNat_of_zero_le hb.1
        obtain rfl : ((n : Int) - 1, (restW n a i b : Int), true) = r := (resT_yes ht hi.2 hb.2).symm.trans HR.out
        dsimp only at f0 f1 g0 g1 h0 h1 ⊢
        have hin : i < n := by omega
        have hbl : b < 2 := by omega
        have hal : (a : Int) ≤ 4294967295 := by have := fullN_le n hn5; omega
        have HX := Lib.hid (Tab.resMT0 n a i ht hi.2)
        have HY := Lib.hid (Tab.resMT1 n a i ht hi.2)
        have HJ := Lib.hid (Tab.joinBack n a i hn5 hfull hin)
        have HD := Lib.hid (Tab.depI n a i (by omega))
        rw [depB_in ht hi.2] at HD
        have HC := Lib.hid (Tab.cubeBack n a i b hn5 ht hal hin hbl)
        have HO := Lib.hid (Tab.cubeOf (n - 1) (restW n a i b) (restW_bound n a i b hn5))
        rw [show ((n - 1 : Nat) : Int) = (n : Int) - 1 by omega] at HO
        have W1 := Lib.hid (up2k i (by omega))
        have W2 := Lib.hid (up2c b i (by omega) hbl)
        have hi4 : (i : Int) ≤ 4 := by omega
        have hb1z : (b : Int) ≤ 1 := by omega
        have hde : depW n a i = decide (restW n a i 0 ≠ restW n a i 1) := rfl
        clear ht hi hb hn5 hfull hin hbl HR HI HM
        have H2 := Lib.hid (show restW n a i b = restW n a i b from rfl)
        generalize restW n a i b = h at HO HC f0 f1 h0 h1 g0 g1 B2 B3 ⊢
        generalize restW n a i 0 = x at HX HJ hde
        generalize restW n a i 1 = y at HY HJ hde
        by_cases hxy : x = y
        · have hdd : depW n a i = false := by rw [hde]; simp [hxy]
          rw [hdd] at HD
          subst hxy
          clear hdd hde
          go_wp2_with fail
          refine (HX.out _).mono ?_
          rintro e w4 ⟨rfl, hb4⟩
          dsimp only
          have hs4 : w3.heap.size + 1 ≤ w4.heap.size := by simpa using hb4.size
          have B4 := Lib.hid (bA (o := .cells #[.int .i64 ((n : Int) - 1), .int .i64 (x : Int)] 25) (by have := B3.out.size; simp at this; omega) (B3.out.trans (hb4.mono B3.out.size)))
          replace f0 := keepA (o := .cells #[.int .i64 ((n : Int) - 1), .int .i64 (x : Int)] 25) (keepB hb4 f0)
          replace f1 := keepA (o := .cells #[.int .i64 ((n : Int) - 1), .int .i64 (x : Int)] 25) (keepB hb4 f1)
          replace h0 := keepA (o := .cells #[.int .i64 ((n : Int) - 1), .int .i64 (x : Int)] 25) (keepB hb4 h0)
          replace h1 := keepA (o := .cells #[.int .i64 ((n : Int) - 1), .int .i64 (x : Int)] 25) (keepB hb4 h1)
          have x0 : (w4.alloc (.cells #[.int .i64 ((n : Int) - 1), .int .i64 (x : Int)] 25)).cell? ⟨w4.heap.size, 0, none⟩ = some (.int .i64 ((n : Int) - 1)) := keepN rfl rfl
          have x1 : (w4.alloc (.cells #[.int .i64 ((n : Int) - 1), .int .i64 (x : Int)] 25)).cell? ⟨w4.heap.size, 1, none⟩ = some (.int .i64 (x : Int)) := keepN rfl rfl
          clear hb4
          go_wp2_with fail
          refine (HY.out _).mono ?_
          rintro e w5 ⟨rfl, hb5⟩
          dsimp only
          have hs5 : w4.heap.size + 1 ≤ w5.heap.size := by simpa using hb5.size
          have B5 := Lib.hid (bA (o := .cells #[.int .i64 ((n : Int) - 1), .int .i64 (x : Int)] 25) (by have := B4.out.size; simp at this; omega) (B4.out.trans (hb5.mono B4.out.size)))
          replace f0 := keepA (o := .cells #[.int .i64 ((n : Int) - 1), .int .i64 (x : Int)] 25) (keepB hb5 f0)
          replace f1 := keepA (o := .cells #[.int .i64 ((n : Int) - 1), .int .i64 (x : Int)] 25) (keepB hb5 f1)
          replace h0 := keepA (o := .cells #[.int .i64 ((n : Int) - 1), .int .i64 (x : Int)] 25) (keepB hb5 h0)
          replace h1 := keepA (o := .cells #[.int .i64 ((n : Int) - 1), .int .i64 (x : Int)] 25) (keepB hb5 h1)
          replace x0 := keepA (o := .cells #[.int .i64 ((n : Int) - 1), .int .i64 (x : Int)] 25) (keepB hb5 x0)
          replace x1 := keepA (o := .cells #[.int .i64 ((n : Int) - 1), .int .i64 (x : Int)] 25) (keepB hb5 x1)
          have y0 : (w5.alloc (.cells #[.int .i64 ((n : Int) - 1), .int .i64 (x : Int)] 25)).cell? ⟨w5.heap.size, 0, none⟩ = some (.int .i64 ((n : Int) - 1)) := keepN rfl rfl
          have y1 : (w5.alloc (.cells #[.int .i64 ((n : Int) - 1), .int .i64 (x : Int)] 25)).cell? ⟨w5.heap.size, 1, none⟩ = some (.int .i64 (x : Int)) := keepN rfl rfl
          clear hb5
          go_wp2_with fail
          refine (HJ.out _).mono ?_
          rintro e w6 ⟨rfl, hb6⟩
          dsimp only
          have hs6 : w5.heap.size + 1 ≤ w6.heap.size := by simpa using hb6.size
          have B6 := Lib.hid (bA (o := .cells #[.int .i64 (n : Int), .int .i64 (a : Int)] 25) (by have := B5.out.size; simp at this; omega) (B5.out.trans (hb6.mono B5.out.size)))
          replace f0 := keepA (o := .cells #[.int .i64 (n : Int), .int .i64 (a : Int)] 25) (keepB hb6 f0)
          replace f1 := keepA (o := .cells #[.int .i64 (n : Int), .int .i64 (a : Int)] 25) (keepB hb6 f1)
          replace h0 := keepA (o := .cells #[.int .i64 (n : Int), .int .i64 (a : Int)] 25) (keepB hb6 h0)
          replace h1 := keepA (o := .cells #[.int .i64 (n : Int), .int .i64 (a : Int)] 25) (keepB hb6 h1)
          replace x0 := keepA (o := .cells #[.int .i64 (n : Int), .int .i64 (a : Int)] 25) (keepB hb6 x0)
          replace x1 := keepA (o := .cells #[.int .i64 (n : Int), .int .i64 (a : Int)] 25) (keepB hb6 x1)
          replace y0 := keepA (o := .cells #[.int .i64 (n : Int), .int .i64 (a : Int)] 25) (keepB hb6 y0)
          replace y1 := keepA (o := .cells #[.int .i64 (n : Int), .int .i64 (a : Int)] 25) (keepB hb6 y1)
          have z0 : (w6.alloc (.cells #[.int .i64 (n : Int), .int .i64 (a : Int)] 25)).cell? ⟨w6.heap.size, 0, none⟩ = some (.int .i64 (n : Int)) := keepN rfl rfl
          have z1 : (w6.alloc (.cells #[.int .i64 (n : Int), .int .i64 (a : Int)] 25)).cell? ⟨w6.heap.size, 1, none⟩ = some (.int .i64 (a : Int)) := keepN rfl rfl
          clear hb6
          have hw6 : W.heap.size ≤ w6.heap.size := by omega
          have SB := Lib.hid B6.out
          go_wp2_with fail
          first | (go_region_held3 (fun w' => w'.cell? ⟨w1.heap.size, 0, none⟩ = some (.int .i64 (n : Int)) ∧ w'.cell? ⟨w1.heap.size, 1, none⟩ = some (.int .i64 (a : Int)) ∧ w'.cell? ⟨w3.heap.size, 0, none⟩ = some (.int .i64 ((n : Int) - 1)) ∧ w'.cell? ⟨w3.heap.size, 1, none⟩ = some (.int .i64 (h : Int)) ∧ w'.cell? ⟨w4.heap.size, 0, none⟩ = some (.int .i64 ((n : Int) - 1)) ∧ w'.cell? ⟨w4.heap.size, 1, none⟩ = some (.int .i64 (x : Int)) ∧ w'.cell? ⟨w5.heap.size, 0, none⟩ = some (.int .i64 ((n : Int) - 1)) ∧ w'.cell? ⟨w5.heap.size, 1, none⟩ = some (.int .i64 (x : Int)) ∧ w'.cell? ⟨w6.heap.size, 0, none⟩ = some (.int .i64 (n : Int)) ∧ w'.cell? ⟨w6.heap.size, 1, none⟩ = some (.int .i64 (a : Int))) ((first | (go_split_ands; (try dsimp only); (refine ⟨?_, ?_, ?_, ?_, ?_, ?_, ?_, ?_, ?_, ?_⟩ <;> (repeat (first | with_reducible assumption | (with_reducible refine keepD ?_) | (with_reducible refine keepB hb7 ?_) | (with_reducible refine keepB hb8 ?_) | (with_reducible refine keepB hb9 ?_)))); done) | go_keep))
            (first
              | (go_at_call 15; ((with_reducible refine (HD.out _).mono ?_); rintro e w7 ⟨rfl, hb7⟩; dsimp only))
              | (go_at_call 16; (try rw [W1.out, W2.out]); ((with_reducible refine (HC.out _).mono ?_); rintro e w8 ⟨rfl, hb8⟩; dsimp only))
              | (go_at_call 17; ((with_reducible refine (HO.out _).mono ?_); rintro e w9 ⟨rfl, hb9⟩; dsimp only)))) | (fail)
          all_goals
            have hc7 := hb7.size
            simp at hc7
            have hc8 := hb8.size
            have hc9 := hb9.size
            go_wp2_with fail
            go_meet
            exact ⟨rfl, bB hb9 (by omega) (bB hb8 (by omega) (bB hb7 (by simp; omega) (bD B6.out)))⟩
        · have hdd : depW n a i = true := by rw [hde]; simp [hxy]
          rw [hdd] at HD
          have hne : ((x : Int) == (y : Int)) = false := by rw [beq_eq_false_iff_ne]; omega
          clear hdd hde
          go_wp2_with fail
          refine (HX.out _).mono ?_
          rintro e w4 ⟨rfl, hb4⟩
          dsimp only
          have hs4 : w3.heap.size + 1 ≤ w4.heap.size := by simpa using hb4.size
          have B4 := Lib.hid (bA (o := .cells #[.int .i64 ((n : Int) - 1), .int .i64 (x : Int)] 25) (by have := B3.out.size; simp at this; omega) (B3.out.trans (hb4.mono B3.out.size)))
          replace f0 := keepA (o := .cells #[.int .i64 ((n : Int) - 1), .int .i64 (x : Int)] 25) (keepB hb4 f0)
          replace f1 := keepA (o := .cells #[.int .i64 ((n : Int) - 1), .int .i64 (x : Int)] 25) (keepB hb4 f1)
          replace h0 := keepA (o := .cells #[.int .i64 ((n : Int) - 1), .int .i64 (x : Int)] 25) (keepB hb4 h0)
          replace h1 := keepA (o := .cells #[.int .i64 ((n : Int) - 1), .int .i64 (x : Int)] 25) (keepB hb4 h1)
          have x0 : (w4.alloc (.cells #[.int .i64 ((n : Int) - 1), .int .i64 (x : Int)] 25)).cell? ⟨w4.heap.size, 0, none⟩ = some (.int .i64 ((n : Int) - 1)) := keepN rfl rfl
          have x1 : (w4.alloc (.cells #[.int .i64 ((n : Int) - 1), .int .i64 (x : Int)] 25)).cell? ⟨w4.heap.size, 1, none⟩ = some (.int .i64 (x : Int)) := keepN rfl rfl
          clear hb4
          go_wp2_with fail
          refine (HY.out _).mono ?_
          rintro e w5 ⟨rfl, hb5⟩
          dsimp only
          have hs5 : w4.heap.size + 1 ≤ w5.heap.size := by simpa using hb5.size
          have B5 := Lib.hid (bA (o := .cells #[.int .i64 ((n : Int) - 1), .int .i64 (y : Int)] 25) (by have := B4.out.size; simp at this; omega) (B4.out.trans (hb5.mono B4.out.size)))
          replace f0 := keepA (o := .cells #[.int .i64 ((n : Int) - 1), .int .i64 (y : Int)] 25) (keepB hb5 f0)
          replace f1 := keepA (o := .cells #[.int .i64 ((n : Int) - 1), .int .i64 (y : Int)] 25) (keepB hb5 f1)
          replace h0 := keepA (o := .cells #[.int .i64 ((n : Int) - 1), .int .i64 (y : Int)] 25) (keepB hb5 h0)
          replace h1 := keepA (o := .cells #[.int .i64 ((n : Int) - 1), .int .i64 (y : Int)] 25) (keepB hb5 h1)
          replace x0 := keepA (o := .cells #[.int .i64 ((n : Int) - 1), .int .i64 (y : Int)] 25) (keepB hb5 x0)
          replace x1 := keepA (o := .cells #[.int .i64 ((n : Int) - 1), .int .i64 (y : Int)] 25) (keepB hb5 x1)
          have y0 : (w5.alloc (.cells #[.int .i64 ((n : Int) - 1), .int .i64 (y : Int)] 25)).cell? ⟨w5.heap.size, 0, none⟩ = some (.int .i64 ((n : Int) - 1)) := keepN rfl rfl
          have y1 : (w5.alloc (.cells #[.int .i64 ((n : Int) - 1), .int .i64 (y : Int)] 25)).cell? ⟨w5.heap.size, 1, none⟩ = some (.int .i64 (y : Int)) := keepN rfl rfl
          clear hb5
          go_wp2_with fail
          refine (HJ.out _).mono ?_
          rintro e w6 ⟨rfl, hb6⟩
          dsimp only
          have hs6 : w5.heap.size + 1 ≤ w6.heap.size := by simpa using hb6.size
          have B6 := Lib.hid (bA (o := .cells #[.int .i64 (n : Int), .int .i64 (a : Int)] 25) (by have := B5.out.size; simp at this; omega) (B5.out.trans (hb6.mono B5.out.size)))
          replace f0 := keepA (o := .cells #[.int .i64 (n : Int), .int .i64 (a : Int)] 25) (keepB hb6 f0)
          replace f1 := keepA (o := .cells #[.int .i64 (n : Int), .int .i64 (a : Int)] 25) (keepB hb6 f1)
          replace h0 := keepA (o := .cells #[.int .i64 (n : Int), .int .i64 (a : Int)] 25) (keepB hb6 h0)
          replace h1 := keepA (o := .cells #[.int .i64 (n : Int), .int .i64 (a : Int)] 25) (keepB hb6 h1)
          replace x0 := keepA (o := .cells #[.int .i64 (n : Int), .int .i64 (a : Int)] 25) (keepB hb6 x0)
          replace x1 := keepA (o := .cells #[.int .i64 (n : Int), .int .i64 (a : Int)] 25) (keepB hb6 x1)
          replace y0 := keepA (o := .cells #[.int .i64 (n : Int), .int .i64 (a : Int)] 25) (keepB hb6 y0)
          replace y1 := keepA (o := .cells #[.int .i64 (n : Int), .int .i64 (a : Int)] 25) (keepB hb6 y1)
          have z0 : (w6.alloc (.cells #[.int .i64 (n : Int), .int .i64 (a : Int)] 25)).cell? ⟨w6.heap.size, 0, none⟩ = some (.int .i64 (n : Int)) := keepN rfl rfl
          have z1 : (w6.alloc (.cells #[.int .i64 (n : Int), .int .i64 (a : Int)] 25)).cell? ⟨w6.heap.size, 1, none⟩ = some (.int .i64 (a : Int)) := keepN rfl rfl
          clear hb6
          have hw6 : W.heap.size ≤ w6.heap.size := by omega
          have SB := Lib.hid B6.out
          go_wp2_with fail
          first | (go_region_held3 (fun w' => w'.cell? ⟨w1.heap.size, 0, none⟩ = some (.int .i64 (n : Int)) ∧ w'.cell? ⟨w1.heap.size, 1, none⟩ = some (.int .i64 (a : Int)) ∧ w'.cell? ⟨w3.heap.size, 0, none⟩ = some (.int .i64 ((n : Int) - 1)) ∧ w'.cell? ⟨w3.heap.size, 1, none⟩ = some (.int .i64 (h : Int)) ∧ w'.cell? ⟨w4.heap.size, 0, none⟩ = some (.int .i64 ((n : Int) - 1)) ∧ w'.cell? ⟨w4.heap.size, 1, none⟩ = some (.int .i64 (x : Int)) ∧ w'.cell? ⟨w5.heap.size, 0, none⟩ = some (.int .i64 ((n : Int) - 1)) ∧ w'.cell? ⟨w5.heap.size, 1, none⟩ = some (.int .i64 (y : Int)) ∧ w'.cell? ⟨w6.heap.size, 0, none⟩ = some (.int .i64 (n : Int)) ∧ w'.cell? ⟨w6.heap.size, 1, none⟩ = some (.int .i64 (a : Int))) ((first | (go_split_ands; (try dsimp only); (refine ⟨?_, ?_, ?_, ?_, ?_, ?_, ?_, ?_, ?_, ?_⟩ <;> (repeat (first | with_reducible assumption | (with_reducible refine keepD ?_) | (with_reducible refine keepB hb7 ?_) | (with_reducible refine keepB hb8 ?_) | (with_reducible refine keepB hb9 ?_)))); done) | go_keep))
            (first
              | (go_at_call 15; ((with_reducible refine (HD.out _).mono ?_); rintro e w7 ⟨rfl, hb7⟩; dsimp only))
              | (go_at_call 16; (try rw [W1.out, W2.out]); ((with_reducible refine (HC.out _).mono ?_); rintro e w8 ⟨rfl, hb8⟩; dsimp only))
              | (go_at_call 17; ((with_reducible refine (HO.out _).mono ?_); rintro e w9 ⟨rfl, hb9⟩; dsimp only)))) | (fail)
          all_goals
            have hc7 := hb7.size
            simp at hc7
            have hc8 := hb8.size
            have hc9 := hb9.size
            go_wp2_with fail
            go_meet
            exact ⟨rfl, bB hb9 (by omega) (bB hb8 (by omega) (bB hb7 (by simp; omega) (bD B6.out)))⟩
      · obtain rfl : ((0 : Int), (0 : Int), false) = r := (resT_no hv).symm.trans HR.out
        dsimp only at f0 f1 g0 g1 h0 h1 ⊢
        go_wp2_with fail
        go_meet
        exact ⟨rfl, B3.out⟩
    case rest => as_aux_lemma =>
      obtain ⟨rfl, hbc⟩ := hcut
      have hsc := hbc.size
      have BC := Lib.hid hbc
      have CC := Lib.hid (CODE.out.below hbc)
      clear hbc
      go_wp2_with fail
      refine (Draw.permute _ len0 _ CC.out).mono ?_
      rintro e w1 ⟨n, a, ad, cl, cap, l, rfl, hn, ha, hl7, hli, hb1⟩
      dsimp only
      have hs1 : W.heap.size ≤ w1.heap.size := by have := hb1.size; omega
      have B1 := Lib.hid (bA (o := .cells #[.int .i64 n, .int .i64 a] 25) hs1 (BC.out.trans (hb1.mono hsc)))
      have L1 := Lib.hid (hli.below (w' := w1.alloc (.cells #[.int .i64 n, .int .i64 a] 25)) ((Below.refl _ _).alloc (Nat.le_refl _) _))
      have f0 : (w1.alloc (.cells #[.int .i64 n, .int .i64 a] 25)).cell? ⟨w1.heap.size, 0, none⟩ = some (.int .i64 n) := keepN rfl rfl
      have f1 : (w1.alloc (.cells #[.int .i64 n, .int .i64 a] 25)).cell? ⟨w1.heap.size, 1, none⟩ = some (.int .i64 a) := keepN rfl rfl
      have HI := Lib.hid (fun w hv => Tab.perI n a ad cl cap l ha w hv)
      have HM := Lib.hid (fun w hv => Tab.perM n a ad cl cap l w hv)
      generalize hr : perT n a l = r at HI HM
      have HR := Lib.hid hr
      have HA := Lib.hid ha
      clear hn ha hl7 hli hb1 hr
      go_wp2_with fail
      refine (HI.out _ L1.out).mono ?_
      rintro e w2 ⟨rfl, hb2⟩
      dsimp only
      have L2 := Lib.hid (L1.out.below (bA (o := .cells #[.int .i64 r.1, .int .i64 r.2.1] 25) hb2.size hb2))
      have hs2 : w1.heap.size + 1 ≤ w2.heap.size := by simpa using hb2.size
      have B2 := Lib.hid (bA (o := .cells #[.int .i64 r.1, .int .i64 r.2.1] 25) (by have := B1.out.size; simp at this; omega) (B1.out.trans (hb2.mono B1.out.size)))
      replace f0 := keepA (o := .cells #[.int .i64 r.1, .int .i64 r.2.1] 25) (keepB hb2 f0)
      replace f1 := keepA (o := .cells #[.int .i64 r.1, .int .i64 r.2.1] 25) (keepB hb2 f1)
      have g0 : (w2.alloc (.cells #[.int .i64 r.1, .int .i64 r.2.1] 25)).cell? ⟨w2.heap.size, 0, none⟩ = some (.int .i64 r.1) := keepN rfl rfl
      have g1 : (w2.alloc (.cells #[.int .i64 r.1, .int .i64 r.2.1] 25)).cell? ⟨w2.heap.size, 1, none⟩ = some (.int .i64 r.2.1) := keepN rfl rfl
      clear hb2
      go_wp2_with fail
      refine (HM.out _ L2.out).mono ?_
      rintro e w3 ⟨rfl, hb3⟩
      dsimp only
      have hs3 : w2.heap.size + 1 ≤ w3.heap.size := by simpa using hb3.size
      have B3 := Lib.hid (bA (o := .cells #[.int .i64 r.1, .int .i64 r.2.1] 25) (by have := B2.out.size; simp at this; omega) (B2.out.trans (hb3.mono B2.out.size)))
      replace f0 := keepA (o := .cells #[.int .i64 r.1, .int .i64 r.2.1] 25) (keepB hb3 f0)
      replace f1 := keepA (o := .cells #[.int .i64 r.1, .int .i64 r.2.1] 25) (keepB hb3 f1)
      replace g0 := keepA (o := .cells #[.int .i64 r.1, .int .i64 r.2.1] 25) (keepB hb3 g0)
      replace g1 := keepA (o := .cells #[.int .i64 r.1, .int .i64 r.2.1] 25) (keepB hb3 g1)
      have h0 : (w3.alloc (.cells #[.int .i64 r.1, .int .i64 r.2.1] 25)).cell? ⟨w3.heap.size, 0, none⟩ = some (.int .i64 r.1) := keepN rfl rfl
      have h1 : (w3.alloc (.cells #[.int .i64 r.1, .int .i64 r.2.1] 25)).cell? ⟨w3.heap.size, 1, none⟩ = some (.int .i64 r.2.1) := keepN rfl rfl
      clear hb3 L1 L2
      have hw3 : W.heap.size ≤ w3.heap.size := by omega
      go_upto_region 17 with fail
      go_cut [2, 159] (fun s t wx => s = .bool false ∧ t = .bool false ∧ Below W.heap.size W wx)
      case first => as_aux_lemma =>
        by_cases hv : isT n a = true ∧ permB l n.toNat = true
        · obtain ⟨ht, hp⟩ := hv
          obtain ⟨n, a, rfl, rfl, hn5, hfull⟩ := isT_nat ht
          rw [Int.toNat_natCast] at hp
          obtain rfl : ((n : Int), (perW n a l : Int), true) = r := (perT_yes ht hp).symm.trans HR.out
          dsimp only at f0 f1 g0 g1 h0 h1 ⊢
          have h1c := Tab.cntI_yes n a hn5 hfull
          have h2c := Tab.cntI_yes n (perW n a l) hn5 (tabN_full _ _)
          rw [per_ones n a l hn5 hp (fullN_lt a hfull)] at h2c
          have H1 := Lib.hid h1c
          have H2 := Lib.hid h2c
          clear ht hp hn5 hfull h1c h2c HR HI HM HA
          generalize perW n a l = q at *
          generalize popN a = z at *
          first | (go_region_held3 (fun w' => w'.cell? ⟨w1.heap.size, 0, none⟩ = some (.int .i64 (n : Int)) ∧ w'.cell? ⟨w1.heap.size, 1, none⟩ = some (.int .i64 (a : Int)) ∧ w'.cell? ⟨w2.heap.size, 0, none⟩ = some (.int .i64 (n : Int)) ∧ w'.cell? ⟨w2.heap.size, 1, none⟩ = some (.int .i64 (q : Int)) ∧ w'.cell? ⟨w3.heap.size, 0, none⟩ = some (.int .i64 (n : Int)) ∧ w'.cell? ⟨w3.heap.size, 1, none⟩ = some (.int .i64 (q : Int))) ((first | (go_split_ands; (try dsimp only); (refine ⟨?_, ?_, ?_, ?_, ?_, ?_⟩ <;> (repeat (first | with_reducible assumption | (with_reducible refine keepD ?_) | (with_reducible refine keepB hb8 ?_) | (with_reducible refine keepB hb9 ?_)))); done) | go_keep)) (first | (go_at_call 21; ((with_reducible refine (H2.out _).mono ?_); rintro e w8 ⟨rfl, hb8⟩; dsimp only)) | (go_at_call 21; ((with_reducible refine (H1.out _).mono ?_); rintro e w9 ⟨rfl, hb9⟩; dsimp only)))) | (fail)
          all_goals
            have hc8 := hb8.size
            have hc9 := hb9.size
            simp at hc8 hc9
            go_wp2_with fail
            go_meet
            exact ⟨rfl, rfl, by repeat (first | (with_reducible refine bD ?_) | (refine bB hb9 (by first | omega | (simp; omega)) ?_) | (refine bB hb8 (by first | omega | (simp; omega)) ?_) | (exact B3.out))⟩
        · obtain rfl : ((0 : Int), (0 : Int), false) = r := (perT_no hv).symm.trans HR.out
          dsimp only at f0 f1 g0 g1 h0 h1 ⊢
          first | (go_quiet (fail)) | (trace_state; fail)
          go_wp2_with fail
          go_meet
          exact ⟨rfl, rfl, by first | exact below_drewN B3.out _ | exact B3.out⟩
      case rest => as_aux_lemma =>
        obtain ⟨rfl, rfl, hbc⟩ := hcut
        have hsc := hbc.size
        have BC := Lib.hid hbc
        have CC := Lib.hid (CODE.out.below hbc)
        clear hbc
        go_wp2_with fail
        refine (Draw.shift _ len0 _ CC.out).mono ?_
        rintro e w1 ⟨n, a, i, rfl, hn, ha, hi, hb1⟩
        dsimp only
        have hs1 : W.heap.size ≤ w1.heap.size := by have := hb1.size; omega
        have B1 := Lib.hid (bA (o := .cells #[.int .i64 n, .int .i64 a] 25) hs1 (BC.out.trans (hb1.mono hsc)))
        have f0 : (w1.alloc (.cells #[.int .i64 n, .int .i64 a] 25)).cell? ⟨w1.heap.size, 0, none⟩ = some (.int .i64 n) := keepN rfl rfl
        have f1 : (w1.alloc (.cells #[.int .i64 n, .int .i64 a] 25)).cell? ⟨w1.heap.size, 1, none⟩ = some (.int .i64 a) := keepN rfl rfl
        have HI := Lib.hid (Tab.shiI n a i ha)
        have HM := Lib.hid (Tab.shiM n a i)
        generalize hr : shiT n a i = r at HI HM
        have HR := Lib.hid hr
        clear hn ha hi hb1 hr
        go_wp2_with fail
        refine (HI.out _).mono ?_
        rintro e w2 ⟨rfl, hb2⟩
        dsimp only
        have hs2 : w1.heap.size + 1 ≤ w2.heap.size := by simpa using hb2.size
        have B2 := Lib.hid (bA (o := .cells #[.int .i64 r.1, .int .i64 r.2.1] 25) (by have := B1.out.size; simp at this; omega) (B1.out.trans (hb2.mono B1.out.size)))
        replace f0 := keepA (o := .cells #[.int .i64 r.1, .int .i64 r.2.1] 25) (keepB hb2 f0)
        replace f1 := keepA (o := .cells #[.int .i64 r.1, .int .i64 r.2.1] 25) (keepB hb2 f1)
        have g0 : (w2.alloc (.cells #[.int .i64 r.1, .int .i64 r.2.1] 25)).cell? ⟨w2.heap.size, 0, none⟩ = some (.int .i64 r.1) := keepN rfl rfl
        have g1 : (w2.alloc (.cells #[.int .i64 r.1, .int .i64 r.2.1] 25)).cell? ⟨w2.heap.size, 1, none⟩ = some (.int .i64 r.2.1) := keepN rfl rfl
        clear hb2
        go_wp2_with fail
        refine (HM.out _).mono ?_
        rintro e w3 ⟨rfl, hb3⟩
        dsimp only
        have hs3 : w2.heap.size + 1 ≤ w3.heap.size := by simpa using hb3.size
        have B3 := Lib.hid (bA (o := .cells #[.int .i64 r.1, .int .i64 r.2.1] 25) (by have := B2.out.size; simp at this; omega) (B2.out.trans (hb3.mono B2.out.size)))
        replace f0 := keepA (o := .cells #[.int .i64 r.1, .int .i64 r.2.1] 25) (keepB hb3 f0)
        replace f1 := keepA (o := .cells #[.int .i64 r.1, .int .i64 r.2.1] 25) (keepB hb3 f1)
        replace g0 := keepA (o := .cells #[.int .i64 r.1, .int .i64 r.2.1] 25) (keepB hb3 g0)
        replace g1 := keepA (o := .cells #[.int .i64 r.1, .int .i64 r.2.1] 25) (keepB hb3 g1)
        have h0 : (w3.alloc (.cells #[.int .i64 r.1, .int .i64 r.2.1] 25)).cell? ⟨w3.heap.size, 0, none⟩ = some (.int .i64 r.1) := keepN rfl rfl
        have h1 : (w3.alloc (.cells #[.int .i64 r.1, .int .i64 r.2.1] 25)).cell? ⟨w3.heap.size, 1, none⟩ = some (.int .i64 r.2.1) := keepN rfl rfl
        clear hb3
        have hw3 : W.heap.size ≤ w3.heap.size := by omega
        go_upto_if 185 with fail
        go_cut [2] (fun s wx => s = .bool false ∧ Below W.heap.size W wx)
        case first => as_aux_lemma =>
          by_cases hv : isT n a = true ∧ (0 ≤ i ∧ i < 2 ^ n.toNat)
          · obtain ⟨ht, hi0, hi1⟩ := hv
            obtain ⟨n, a, rfl, rfl, hn5, hfull⟩ := isT_nat ht
            obtain ⟨i, rfl⟩ := Int.eq_ofNat_of_zero_le hi0
            rw [Int.toNat_natCast] at hi1
            obtain rfl : ((n : Int), (shiW n a i : Int), true) = r := (shiT_yes ht hi1).symm.trans HR.out
            dsimp only at f0 f1 g0 g1 h0 h1 ⊢
            have hin : i < 2 ^ n := Int.ofNat_lt.1 (by rw [Int.natCast_pow]; exact hi1)
            have hsf : shiW n a i ≤ fullN n := tabN_full _ _
            have hbk := Tab.shiI n (shiW n a i) i (by have := fullN_le n hn5; omega)
            rw [show shiT (n : Int) (shiW n a i : Int) (i : Int) = _ from shiT_yes (isT_yes hn5 hsf) hi1, shi_back hin (fullN_lt a hfull)] at hbk
            have HB := Lib.hid hbk
            clear ht hi0 hi1 hn5 hfull hin hsf hbk HR HI HM
            generalize shiW n a i = q at *
            go_wp2_with fail
            refine (HB.out _).mono ?_
            rintro e w4 ⟨rfl, hb4⟩
            dsimp only
            have hs4 : w3.heap.size + 1 ≤ w4.heap.size := by simpa using hb4.size
            have B4 := Lib.hid (bA (o := .cells #[.int .i64 (n : Int), .int .i64 (a : Int)] 25) (by have := B3.out.size; simp at this; omega) (B3.out.trans (hb4.mono B3.out.size)))
            replace f0 := keepA (o := .cells #[.int .i64 (n : Int), .int .i64 (a : Int)] 25) (keepB hb4 f0)
            replace f1 := keepA (o := .cells #[.int .i64 (n : Int), .int .i64 (a : Int)] 25) (keepB hb4 f1)
            replace h0 := keepA (o := .cells #[.int .i64 (n : Int), .int .i64 (a : Int)] 25) (keepB hb4 h0)
            replace h1 := keepA (o := .cells #[.int .i64 (n : Int), .int .i64 (a : Int)] 25) (keepB hb4 h1)
            have k0 : (w4.alloc (.cells #[.int .i64 (n : Int), .int .i64 (a : Int)] 25)).cell? ⟨w4.heap.size, 0, none⟩ = some (.int .i64 (n : Int)) := keepN rfl rfl
            have k1 : (w4.alloc (.cells #[.int .i64 (n : Int), .int .i64 (a : Int)] 25)).cell? ⟨w4.heap.size, 1, none⟩ = some (.int .i64 (a : Int)) := keepN rfl rfl
            clear hb4
            go_wp2_with fail
            go_meet
            exact ⟨rfl, B4.out⟩
          · obtain rfl : ((0 : Int), (0 : Int), false) = r := (shiT_no hv).symm.trans HR.out
            dsimp only at f0 f1 g0 g1 h0 h1 ⊢
            go_wp2_with fail
            go_meet
            exact ⟨rfl, B3.out⟩
        case rest => as_aux_lemma =>
          obtain ⟨rfl, hbc⟩ := hcut
          have hsc := hbc.size
          have BC := Lib.hid hbc
          have CC := Lib.hid (CODE.out.below hbc)
          clear hbc
          go_wp2_with fail
          refine (Draw.reduce _ len0 _ CC.out).mono ?_
          rintro e w1 ⟨n, a, rfl, hn, ha, hb1⟩
          dsimp only
          have hs1 : W.heap.size ≤ w1.heap.size := by have := hb1.size; omega
          have B1 := Lib.hid (bA (o := .cells #[.int .i64 n, .int .i64 a] 25) hs1 (BC.out.trans (hb1.mono hsc)))
          have f0 : (w1.alloc (.cells #[.int .i64 n, .int .i64 a] 25)).cell? ⟨w1.heap.size, 0, none⟩ = some (.int .i64 n) := keepN rfl rfl
          have f1 : (w1.alloc (.cells #[.int .i64 n, .int .i64 a] 25)).cell? ⟨w1.heap.size, 1, none⟩ = some (.int .i64 a) := keepN rfl rfl
          have HI := Lib.hid (Tab.redI n a ha)
          have HM := Lib.hid (Tab.redM n a)
          have HA := Lib.hid ha
          generalize hr : redT n a = r at HI HM
          have HR := Lib.hid hr
          clear hn ha hb1 hr
          go_wp2_with fail
          refine (HI.out _).mono ?_
          rintro e w2 ⟨rfl, hb2⟩
          dsimp only
          have hs2 : w1.heap.size + 1 ≤ w2.heap.size := by simpa using hb2.size
          have B2 := Lib.hid (bA (o := .cells #[.int .i64 r.1, .int .i64 r.2.1] 25) (by have := B1.out.size; simp at this; omega) (B1.out.trans (hb2.mono B1.out.size)))
          replace f0 := keepA (o := .cells #[.int .i64 r.1, .int .i64 r.2.1] 25) (keepB hb2 f0)
          replace f1 := keepA (o := .cells #[.int .i64 r.1, .int .i64 r.2.1] 25) (keepB hb2 f1)
          have g0 : (w2.alloc (.cells #[.int .i64 r.1, .int .i64 r.2.1] 25)).cell? ⟨w2.heap.size, 0, none⟩ = some (.int .i64 r.1) := keepN rfl rfl
          have g1 : (w2.alloc (.cells #[.int .i64 r.1, .int .i64 r.2.1] 25)).cell? ⟨w2.heap.size, 1, none⟩ = some (.int .i64 r.2.1) := keepN rfl rfl
          clear hb2
          go_wp2_with fail
          refine (HM.out _).mono ?_
          rintro e w3 ⟨rfl, hb3⟩
          dsimp only
          have hs3 : w2.heap.size + 1 ≤ w3.heap.size := by simpa using hb3.size
          have B3 := Lib.hid (bA (o := .cells #[.int .i64 r.1, .int .i64 r.2.1] 25) (by have := B2.out.size; simp at this; omega) (B2.out.trans (hb3.mono B2.out.size)))
          replace f0 := keepA (o := .cells #[.int .i64 r.1, .int .i64 r.2.1] 25) (keepB hb3 f0)
          replace f1 := keepA (o := .cells #[.int .i64 r.1, .int .i64 r.2.1] 25) (keepB hb3 f1)
          replace g0 := keepA (o := .cells #[.int .i64 r.1, .int .i64 r.2.1] 25) (keepB hb3 g0)
          replace g1 := keepA (o := .cells #[.int .i64 r.1, .int .i64 r.2.1] 25) (keepB hb3 g1)
          have h0 : (w3.alloc (.cells #[.int .i64 r.1, .int .i64 r.2.1] 25)).cell? ⟨w3.heap.size, 0, none⟩ = some (.int .i64 r.1) := keepN rfl rfl
          have h1 : (w3.alloc (.cells #[.int .i64 r.1, .int .i64 r.2.1] 25)).cell? ⟨w3.heap.size, 1, none⟩ = some (.int .i64 r.2.1) := keepN rfl rfl
          clear hb3
          have hw3 : W.heap.size ≤ w3.heap.size := by omega
          go_upto_region 31 with fail
          go_cut [2, 30, 237] (fun s p t wx => s = .bool false ∧ t = .bool false ∧ Below W.heap.size W wx ∧ ∃ g : Nat, ∃ n a : Int, p = .pointer (some ⟨g, 0, none⟩) ∧ W.heap.size ≤ g ∧ g < wx.heap.size ∧ In64 a ∧ wx.cell? ⟨g, 0, none⟩ = some (.int .i64 n) ∧ wx.cell? ⟨g, 1, none⟩ = some (.int .i64 a))
          case first => as_aux_lemma =>
            have hg1 : w1.heap.size < w3.heap.size + 1 := by omega
            cases ht : isT n a with
            | true =>
              obtain ⟨n, a, rfl, rfl, hn5, hfull⟩ := isT_nat ht
              obtain rfl : (((redS n n a).1 : Int), ((redS n n a).2 : Int), true) = r := (redT_yes ht).symm.trans HR.out
              dsimp only at f0 f1 g0 g1 h0 h1 ⊢
              obtain ⟨e1, e2, e3, e4⟩ := red_lens n a hn5 hfull
              have h1c := Tab.vosN n a _ HA.out e3
              have h2c := Tab.vosN ((redS n n a).1 : Int) ((redS n n a).2 : Int) _ (by have := fullN_le _ e1; omega) e4
              have H1 := Lib.hid h1c
              have H2 := Lib.hid h2c
              clear ht hn5 hfull h1c h2c HR HI HM e2 e3 e4
              generalize (redS n n a).1 = m at *
              generalize (redS n n a).2 = q at *
              first | (go_region_held3 (fun w' => w'.cell? ⟨w1.heap.size, 0, none⟩ = some (.int .i64 (n : Int)) ∧ w'.cell? ⟨w1.heap.size, 1, none⟩ = some (.int .i64 (a : Int)) ∧ w'.cell? ⟨w2.heap.size, 0, none⟩ = some (.int .i64 (m : Int)) ∧ w'.cell? ⟨w2.heap.size, 1, none⟩ = some (.int .i64 (q : Int)) ∧ w'.cell? ⟨w3.heap.size, 0, none⟩ = some (.int .i64 (m : Int)) ∧ w'.cell? ⟨w3.heap.size, 1, none⟩ = some (.int .i64 (q : Int))) ((first | (go_split_ands; (try dsimp only); (refine ⟨?_, ?_, ?_, ?_, ?_, ?_⟩ <;> (repeat (first | with_reducible assumption | (with_reducible refine keepD ?_) | (with_reducible refine keepB hb8 ?_) | (with_reducible refine keepB hb9 ?_)))); done) | go_keep)) (first | (go_at_call 28; ((with_reducible refine (H1.out _).mono ?_); rintro e w8 ⟨⟨ad8, cap8, rfl⟩, hb8⟩; dsimp only)) | (go_at_call 28; ((with_reducible refine (H2.out _).mono ?_); rintro e w9 ⟨⟨ad9, cap9, rfl⟩, hb9⟩; dsimp only)))) | (fail)
              all_goals
                have hc8 := hb8.size
                have hc9 := hb9.size
                simp at hc8 hc9
                go_wp2_with fail
                go_meet
                rename_i hH
                refine ⟨rfl, rfl, ?_, w1.heap.size, (n : Int), (a : Int), rfl, hs1, ?_, HA.out, hH.1, hH.2.1⟩
                · repeat (first | (with_reducible refine bD ?_) | (refine bB hb9 (by first | omega | (simp; omega)) ?_) | (refine bB hb8 (by first | omega | (simp; omega)) ?_) | (exact B3.out))
                · omega
            | false =>
              obtain rfl : ((0 : Int), (0 : Int), false) = r := (redT_no ht).symm.trans HR.out
              dsimp only at f0 f1 g0 g1 h0 h1 ⊢
              first | (go_quiet (fail)) | (trace_state; fail)
              go_wp2_with fail
              go_meet
              refine ⟨rfl, rfl, by first | exact below_drewN B3.out _ | exact B3.out, w1.heap.size, n, a, rfl, hs1, ?_, HA.out, ?_, ?_⟩
              · first | (simp; omega) | omega
              · first | exact keepU f0 | exact f0
              · first | exact keepU f1 | exact f1
          case rest => as_aux_lemma =>
            obtain ⟨rfl, rfl, hbc, g, vn, va, rfl, hg0, hg1, hva, v0, v1⟩ := hcut
            have hsc := hbc.size
            have BC := Lib.hid hbc
            have CC := Lib.hid (CODE.out.below hbc)
            clear hbc
            go_wp2_with fail
            refine (Draw.join _ len0 _ CC.out).mono ?_
            rintro e w1 ⟨n, a, m, c, i, rfl, hn, ha, hm, hc, hi, hb1⟩
            dsimp only
            have hs0 : wc.heap.size ≤ w1.heap.size := hb1.size
            have hs1 : W.heap.size ≤ w1.heap.size := by omega
            have B1 := Lib.hid (bA (o := .cells #[.int .i64 m, .int .i64 c] 25) (by simp; omega) (bA (o := .cells #[.int .i64 n, .int .i64 a] 25) hs1 (BC.out.trans (hb1.mono hsc))))
            replace v0 := keepA (o := .cells #[.int .i64 m, .int .i64 c] 25) (keepA (o := .cells #[.int .i64 n, .int .i64 a] 25) (keepB hb1 v0))
            replace v1 := keepA (o := .cells #[.int .i64 m, .int .i64 c] 25) (keepA (o := .cells #[.int .i64 n, .int .i64 a] 25) (keepB hb1 v1))
            have p0 : ((w1.alloc (.cells #[.int .i64 n, .int .i64 a] 25)).alloc (.cells #[.int .i64 m, .int .i64 c] 25)).cell? ⟨w1.heap.size, 0, none⟩ = some (.int .i64 n) := keepA (keepN rfl rfl)
            have p1 : ((w1.alloc (.cells #[.int .i64 n, .int .i64 a] 25)).alloc (.cells #[.int .i64 m, .int .i64 c] 25)).cell? ⟨w1.heap.size, 1, none⟩ = some (.int .i64 a) := keepA (keepN rfl rfl)
            have q0 : ((w1.alloc (.cells #[.int .i64 n, .int .i64 a] 25)).alloc (.cells #[.int .i64 m, .int .i64 c] 25)).cell? ⟨w1.heap.size + 1, 0, none⟩ = some (.int .i64 m) := keepN (by simp) rfl
            have q1 : ((w1.alloc (.cells #[.int .i64 n, .int .i64 a] 25)).alloc (.cells #[.int .i64 m, .int .i64 c] 25)).cell? ⟨w1.heap.size + 1, 1, none⟩ = some (.int .i64 c) := keepN (by simp) rfl
            have HI := Lib.hid (Tab.joinI n a m c i ha hc)
            have HM := Lib.hid (Tab.joinM n a m c i)
            generalize joinT n a m c i = r at HI HM
            clear hn ha hm hc hi hb1
            go_wp2_with fail
            refine (HI.out _).mono ?_
            rintro e w2 ⟨rfl, hb2⟩
            dsimp only
            have hs2 : w1.heap.size + 1 + 1 ≤ w2.heap.size := by simpa using hb2.size
            have B2 := Lib.hid (bA (o := .cells #[.int .i64 r.1, .int .i64 r.2.1] 25) (by have := B1.out.size; simp at this; omega) (B1.out.trans (hb2.mono B1.out.size)))
            replace v0 := keepA (o := .cells #[.int .i64 r.1, .int .i64 r.2.1] 25) (keepB hb2 v0)
            replace v1 := keepA (o := .cells #[.int .i64 r.1, .int .i64 r.2.1] 25) (keepB hb2 v1)
            replace p0 := keepA (o := .cells #[.int .i64 r.1, .int .i64 r.2.1] 25) (keepB hb2 p0)
            replace p1 := keepA (o := .cells #[.int .i64 r.1, .int .i64 r.2.1] 25) (keepB hb2 p1)
            replace q0 := keepA (o := .cells #[.int .i64 r.1, .int .i64 r.2.1] 25) (keepB hb2 q0)
            replace q1 := keepA (o := .cells #[.int .i64 r.1, .int .i64 r.2.1] 25) (keepB hb2 q1)
            have g0 : (w2.alloc (.cells #[.int .i64 r.1, .int .i64 r.2.1] 25)).cell? ⟨w2.heap.size, 0, none⟩ = some (.int .i64 r.1) := keepN rfl rfl
            have g1 : (w2.alloc (.cells #[.int .i64 r.1, .int .i64 r.2.1] 25)).cell? ⟨w2.heap.size, 1, none⟩ = some (.int .i64 r.2.1) := keepN rfl rfl
            clear hb2
            go_wp2_with fail
            refine (HM.out _).mono ?_
            rintro e w3 ⟨rfl, hb3⟩
            dsimp only
            have hs3 : w2.heap.size + 1 ≤ w3.heap.size := by simpa using hb3.size
            have B3 := Lib.hid (bA (o := .cells #[.int .i64 r.1, .int .i64 r.2.1] 25) (by have := B2.out.size; simp at this; omega) (B2.out.trans (hb3.mono B2.out.size)))
            replace v0 := keepA (o := .cells #[.int .i64 r.1, .int .i64 r.2.1] 25) (keepB hb3 v0)
            replace v1 := keepA (o := .cells #[.int .i64 r.1, .int .i64 r.2.1] 25) (keepB hb3 v1)
            replace g0 := keepA (o := .cells #[.int .i64 r.1, .int .i64 r.2.1] 25) (keepB hb3 g0)
            replace g1 := keepA (o := .cells #[.int .i64 r.1, .int .i64 r.2.1] 25) (keepB hb3 g1)
            have h0 : (w3.alloc (.cells #[.int .i64 r.1, .int .i64 r.2.1] 25)).cell? ⟨w3.heap.size, 0, none⟩ = some (.int .i64 r.1) := keepN rfl rfl
            have h1 : (w3.alloc (.cells #[.int .i64 r.1, .int .i64 r.2.1] 25)).cell? ⟨w3.heap.size, 1, none⟩ = some (.int .i64 r.2.1) := keepN rfl rfl
            clear hb3 p0 p1 q0 q1 HI HM
            have CC3 := Lib.hid (CODE.out.below B3.out)
            go_wp2_with fail
            refine (Draw.depends _ len0 _ CC3.out).mono ?_
            rintro e w4 ⟨dn, da, di, rfl, hdn, hda, hdi, hb4⟩
            dsimp only
            have hs4 : w3.heap.size + 1 ≤ w4.heap.size := by simpa using hb4.size
            have B4 := Lib.hid (bA (o := .cells #[.int .i64 dn, .int .i64 da] 25) (by have := B3.out.size; simp at this; omega) (B3.out.trans (hb4.mono B3.out.size)))
            replace v0 := keepA (o := .cells #[.int .i64 dn, .int .i64 da] 25) (keepB hb4 v0)
            replace v1 := keepA (o := .cells #[.int .i64 dn, .int .i64 da] 25) (keepB hb4 v1)
            replace g0 := keepA (o := .cells #[.int .i64 dn, .int .i64 da] 25) (keepB hb4 g0)
            replace g1 := keepA (o := .cells #[.int .i64 dn, .int .i64 da] 25) (keepB hb4 g1)
            replace h0 := keepA (o := .cells #[.int .i64 dn, .int .i64 da] 25) (keepB hb4 h0)
            replace h1 := keepA (o := .cells #[.int .i64 dn, .int .i64 da] 25) (keepB hb4 h1)
            have d0 : (w4.alloc (.cells #[.int .i64 dn, .int .i64 da] 25)).cell? ⟨w4.heap.size, 0, none⟩ = some (.int .i64 dn) := keepN rfl rfl
            have d1 : (w4.alloc (.cells #[.int .i64 dn, .int .i64 da] 25)).cell? ⟨w4.heap.size, 1, none⟩ = some (.int .i64 da) := keepN rfl rfl
            have D1 := Lib.hid (Tab.depI dn da di hda)
            have D2 := Lib.hid (Tab.depM dn da di)
            generalize depB dn da di = db at D1 D2
            clear hdn hda hdi hb4
            have CC4 := Lib.hid (CODE.out.below B4.out)
            go_wp2_with fail
            refine (Draw.cube _ len0 _ CC4.out).mono ?_
            rintro e w5 ⟨bn, ba, bi, bj, rfl, hbn, hba, hbi, hbj, hb5⟩
            dsimp only
            have hs5 : w4.heap.size + 1 ≤ w5.heap.size := by simpa using hb5.size
            have B5 := Lib.hid (bA (o := .cells #[.int .i64 bn, .int .i64 ba] 25) (by have := B4.out.size; simp at this; omega) (B4.out.trans (hb5.mono B4.out.size)))
            replace v0 := keepA (o := .cells #[.int .i64 bn, .int .i64 ba] 25) (keepB hb5 v0)
            replace v1 := keepA (o := .cells #[.int .i64 bn, .int .i64 ba] 25) (keepB hb5 v1)
            replace g0 := keepA (o := .cells #[.int .i64 bn, .int .i64 ba] 25) (keepB hb5 g0)
            replace g1 := keepA (o := .cells #[.int .i64 bn, .int .i64 ba] 25) (keepB hb5 g1)
            replace h0 := keepA (o := .cells #[.int .i64 bn, .int .i64 ba] 25) (keepB hb5 h0)
            replace h1 := keepA (o := .cells #[.int .i64 bn, .int .i64 ba] 25) (keepB hb5 h1)
            replace d0 := keepA (o := .cells #[.int .i64 bn, .int .i64 ba] 25) (keepB hb5 d0)
            replace d1 := keepA (o := .cells #[.int .i64 bn, .int .i64 ba] 25) (keepB hb5 d1)
            have b0 : (w5.alloc (.cells #[.int .i64 bn, .int .i64 ba] 25)).cell? ⟨w5.heap.size, 0, none⟩ = some (.int .i64 bn) := keepN rfl rfl
            have b1 : (w5.alloc (.cells #[.int .i64 bn, .int .i64 ba] 25)).cell? ⟨w5.heap.size, 1, none⟩ = some (.int .i64 ba) := keepN rfl rfl
            have C1 := Lib.hid (Tab.cubI bn ba bi bj hba hbj)
            have C2 := Lib.hid (Tab.cubM bn ba bi bj)
            generalize cubT bn ba bi bj = cv at C1 C2
            have V1 := Lib.hid (Tab.vosIB vn va hva)
            have V2 := Lib.hid (Tab.vosMB vn va)
            generalize varsT vn va = vl at V1 V2
            clear hbn hba hbi hbj hb5 hva CC CC3 CC4 CODE HB
            have hw5 : W.heap.size ≤ w5.heap.size := by omega
            have hgw : g < w5.heap.size := by omega
            go_wp2_with fail
            first | (go_region_held3 (fun w' => w'.cell? ⟨g, 0, none⟩ = some (.int .i64 vn) ∧ w'.cell? ⟨g, 1, none⟩ = some (.int .i64 va) ∧ w'.cell? ⟨w2.heap.size, 0, none⟩ = some (.int .i64 r.1) ∧ w'.cell? ⟨w2.heap.size, 1, none⟩ = some (.int .i64 r.2.1) ∧ w'.cell? ⟨w3.heap.size, 0, none⟩ = some (.int .i64 r.1) ∧ w'.cell? ⟨w3.heap.size, 1, none⟩ = some (.int .i64 r.2.1) ∧ w'.cell? ⟨w4.heap.size, 0, none⟩ = some (.int .i64 dn) ∧ w'.cell? ⟨w4.heap.size, 1, none⟩ = some (.int .i64 da) ∧ w'.cell? ⟨w5.heap.size, 0, none⟩ = some (.int .i64 bn) ∧ w'.cell? ⟨w5.heap.size, 1, none⟩ = some (.int .i64 ba)) ((first | (go_split_ands; (try dsimp only); (refine ⟨?_, ?_, ?_, ?_, ?_, ?_, ?_, ?_, ?_, ?_⟩ <;> (repeat (first | with_reducible assumption | (with_reducible refine keepD ?_) | (with_reducible refine keepB hb11 ?_) | (with_reducible refine keepB hb12 ?_) | (with_reducible refine keepB hb13 ?_) | (with_reducible refine keepB hb14 ?_) | (with_reducible refine keepB hb15 ?_) | (with_reducible refine keepB hb16 ?_) | (with_reducible refine keepB hb17 ?_)))); done) | go_keep)) (first | (go_at_call 15; ((with_reducible refine (D1.out _).mono ?_); rintro e w11 ⟨rfl, hb11⟩; dsimp only)) | (go_at_call 33; ((with_reducible refine (D2.out _).mono ?_); rintro e w12 ⟨rfl, hb12⟩; dsimp only)) | (go_at_call 28; ((with_reducible refine (V1.out _).mono ?_); rintro e w13 ⟨ad13, cp13, rfl, hl13, hb13⟩; dsimp only)) | (go_at_call 35; ((with_reducible refine (V2.out _).mono ?_); rintro e w14 ⟨ad14, cp14, rfl, hl14, hb14⟩; dsimp only)) | (go_at_call 34; (refine (Ints.alikeB _ _ vl _ (hl13 _ (by repeat (first | exact Below.refl _ _ | (refine bD ?_) | (refine bB hb14 (by first | omega | simp) ?_)))) (hl14 _ (by repeat (first | exact Below.refl _ _ | (refine bD ?_) | (refine bB hb14 (by first | omega | simp) ?_))))).mono ?_; rintro e w15 ⟨rfl, hb15⟩; dsimp only)) | (go_at_call 16; ((with_reducible refine (C1.out _).mono ?_); rintro e w16 ⟨rfl, hb16⟩; dsimp only)) | (go_at_call 36; ((with_reducible refine (C2.out _).mono ?_); rintro e w17 ⟨rfl, hb17⟩; dsimp only)))) | (fail)
            all_goals
              have hc11 := hb11.size
              have hc12 := hb12.size
              have hc13 := hb13.size
              have hc14 := hb14.size
              have hc15 := hb15.size
              have hc16 := hb16.size
              have hc17 := hb17.size
              try simp at hc11
              try simp at hc12
              try simp at hc13
              try simp at hc14
              try simp at hc15
              try simp at hc16
              try simp at hc17
              go_wp2_with fail
              go_ret
              refine ⟨rfl, ?_⟩
              repeat (first | (with_reducible refine bD ?_) | (refine bB hb17 (by first | omega | (simp; omega)) ?_) | (refine bB hb16 (by first | omega | (simp; omega)) ?_) | (refine bB hb15 (by first | omega | (simp; omega)) ?_) | (refine bB hb14 (by first | omega | (simp; omega)) ?_) | (refine bB hb13 (by first | omega | (simp; omega)) ?_) | (refine bB hb12 (by first | omega | (simp; omega)) ?_) | (refine bB hb11 (by first | omega | (simp; omega)) ?_) | (exact B5.out))
  · have HB := Lib.hid (Big.yes a0 len0 cap0 hlen)
    clear w0 hlen
    go_enter Try.func3, Try.ntmps3
    go_wp2_with fail
    refine (HB.out _).mono ?_
    rintro e w1 ⟨rfl, rfl⟩
    go_wp2
    go_ret
    exact ⟨rfl, Below.refl _ _⟩

set_option maxRecDepth 100000 in
theorem lifted (os : Os) (started : os.Started) (H : Type) (enc : TypeId × Value → H) :
    ReturnsInHanded {} Try.checked os 3 .any (Rows.fnRestrictionsSpec.pre6 enc Try.prog Try.f3 Rows.fnRestrictionsRow.domain false) (Rows.fnRestrictionsSpec.post enc Try.prog Try.f3 false true false false) := by
  refine returnsInHanded_of_change (C := Try.checked) own started (by kernel_rfl) Try.func3
    (ChangeSpec.witness6 (enc := enc) (C := Try.checked) false ⟨#[], #[.slice none 0 0], []⟩ 8 (by kernel_rfl) (by kernel_rfl) (by kernel_rfl) (by kernel_rfl)) ?_
  intro W base args ds gs before hval0 hW hcnd _
  have hval : ∀ (j : Nat) t v, Try.f3.params[j]? = some t → args[j]? = some v → Value.okWide Try.prog W .any base t v := hval0
  have hW' := hW
  obtain ⟨p, q, hA0, hV, rfl, hfz, hnd⟩ := hW
  have hA : DataW.TrodAll enc Try.prog W 0 (fun _ => true) true Try.f3.params.toList args.toList ds p := hA0
  rw [Try.params3] at hA hval
  obtain ⟨v0, vs0, d0, ds0, p0, q0, hargs, rfl, rfl, h0, r0⟩ := trodAll_cons hA
  obtain ⟨rfl, rfl, rfl⟩ := trodAll_nil r0
  obtain rfl : args = #[v0] := by cases args; simp_all
  obtain ⟨rfl, rfl⟩ := trodVars_none hV
  obtain ⟨a0, len0, cap0, rfl⟩ := okWide_slice Try.underlying22 (hval 0 22 v0 rfl rfl)
  have k0 := h0
  have lt0 : ∀ x ∈ p0, x.block < W.heap.size := by obtain ⟨m, hm⟩ := k0; exact DataW.trod_lt m _ _ _ hm
  obtain ⟨z0, w0⟩ : ∃ zs, IsRow .u8 W a0 len0 cap0 zs := by
    obtain ⟨fuel, hf⟩ := h0
    rcases open_ints Try.underlying22 Try.underlying5 (by kernel_rfl) hf with ⟨hcs, _⟩ | ⟨x, l, c, zs, hcs, _, hl, hm, hz, _, hcell, hwz⟩
    · simp [Value.cells] at hcs
      obtain ⟨rfl, rfl, rfl⟩ := hcs
      exact ⟨[], .inl ⟨rfl, rfl, rfl, rfl⟩⟩
    · simp [Value.cells] at hcs
      obtain ⟨rfl, rfl, rfl⟩ := hcs
      exact ⟨zs, .inr ⟨_, rfl, hl, hm, by simpa using hz, hcell, hwz⟩⟩
  clear hA0 hval0
  simp only [List.append_nil] at hW'
  refine (walk a0 len0 cap0 z0 W w0).mono fun e W' ⟨he, bel⟩ => ?_
  subst he
  exact ⟨_, rfl, _, _, _, [], _, [], hW', trodAll_mk1 (shut_bool Try.underlying4 _), (trodAll_cons_mk (Below.trod laidOut (by kernel_rfl) (of_decide_eq_true (by kernel_rfl)) k0 bel lt0) trodAll_mk0), rfl, bel.frame _, fun h => by cases h⟩

theorem proved : Rows.FnRestrictionsSaid :=
  OpenClaim.holds_of_wide 3 Try.f3 rfl rfl rfl rfl rfl rfl rfl ⟨rfl, rfl, rfl, rfl, rfl⟩ rfl rfl rfl rfl rfl (by kernel_rfl) Try.func3 (by kernel_rfl)
    (of_decide_eq_true (by kernel_rfl)) (by unfold Func.isWrapper; first | (rw [if_pos (by decide +kernel)]; kernel_rfl) | (rw [if_neg (by decide +kernel)]; exact ⟨rfl, rfl⟩))
    (fun os started H enc _ => lifted os started H enc)
end Go.Proofs.Ytecakbjcnabpnaa.fnRestrictions
