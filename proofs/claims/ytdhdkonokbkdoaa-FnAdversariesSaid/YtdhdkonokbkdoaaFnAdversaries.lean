/-
  For every slice of bytes, the law of adversaries returns true: in each order of questions the adversary makes the asker ask at least the least depth and at most all variables, each answer leaves the most, and the program answers as the model does. No condition: the law itself asks nothing of slices longer than 1048576 bytes.
-/
import Derived.Test.YtdhdkonokbkdoaaRows
import Derived.WalkKit
import Derived.ProofKit
import Derived.OpenShut
import Derived.ShutString
import Derived.Carry
import Derived.Below
import Derived.Lib.SmallJoins
import Derived.Test.YtdhdkonokbkdoaaAdvE
import Derived.Test.YtdhdkonokbkdoaaAdvF
import Derived.Test.YtdhdkonokbkdoaaAdvP
import Derived.Test.YtdhdkonokbkdoaaAdvL
import Derived.Deep.RegionHeld3
import Derived.Deep.DeepCutAuto
import Derived.Deep.DrawnRows
import Derived.Deep.QuietTactic
import Derived.BigQuiet
namespace Go.Proofs.Ytdhdkonokbkdoaa.fnAdversaries
open Go.ChangeShapes Go.WideShapes Go.ChangeAt Go.RowKit
open Go.ChangeMaps (open_string shut_string)
open Go.Joins
set_option linter.unusedVariables false

theorem own : ownKnob Try.prog.godebug = none := by kernel_rfl
theorem laidOut : laidOutB Try.prog = true := by kernel_rfl

open Plain
attribute [local go_sem ↓] Go.wp_at_zero Go.wp_at_succ

/-- A slice of integers that came in: it is nil, or it leads to a row of 'cap' cells, the numbers 'zs', each fitting its kind. -/
def IsRow (k : IntKind) (w : World) (a : Option Addr) (len cap : Nat) (zs : List Int) : Prop :=
  (a = none ∧ len = 0 ∧ cap = 0 ∧ zs = []) ∨
  ∃ x, a = some x ∧ len ≤ cap ∧ cap ≤ maxLen ∧ zs.length = cap ∧ (∀ i, i < zs.length → w.cell? (x.add i) = some (.int k (zs.getD i 0))) ∧ ∀ n ∈ zs, (Lit.int k n).wf = true

theorem codeIn {w : World} {a : Option Addr} {len cap : Nat} {zs : List Int} (h : IsRow .u8 w a len cap zs) (hl : (len : Int) ≤ 1048576) : CodeIn w (.slice a len cap) len := by
  refine ⟨a, cap, rfl, by omega, fun h0 => ?_⟩
  rcases h with ⟨_, rfl, _⟩ | ⟨x, rfl, hlc, hm, hz, hcell, hwf⟩
  · omega
  · obtain ⟨ab, off, spot⟩ := x
    have hc := hcell 0 (by omega)
    have hspot : spot = none := by simpa [Addr.add] using World.cell?_spot hc
    subst hspot
    have hlt := World.block_lt_of_cell? w _ hc
    refine ⟨ab, off, rfl, by simpa [Addr.add] using hlt, fun j hj => ?_⟩
    have hj' : j < zs.length := by omega
    have hb := hwf (zs.getD j 0) (by simp [List.getD, hj'])
    have e1 : IntKind.u8.min = 0 := rfl
    have e2 : IntKind.u8.max = 255 := rfl
    simp only [Lit.wf, Bool.and_eq_true, decide_eq_true_eq, e1, e2] at hb
    have hadd : (⟨ab, off, none⟩ : Addr).add j = ⟨ab, off + j, none⟩ := by unfold Addr.add; split <;> simp_all
    exact ⟨zs.getD j 0, hb.1, hb.2, hadd ▸ hcell j hj'⟩

set_option maxRecDepth 100000 in
set_option maxHeartbeats 8000000 in
theorem walk (a0 : Option Addr) (len0 cap0 : Nat) (z0 : List Int) (W : World) (w0 : IsRow .u8 W a0 len0 cap0 z0) :
    Calls Try.prog 3 #[.slice a0 len0 cap0] W fun e w' => e = .returned (.bool true) ∧ Below W.heap.size W w' := by
  by_cases hlen : (len0 : Int) ≤ 1048576
  · have CODE := Lib.hid (codeIn w0 hlen)
    have HB := Lib.hid (Draw.big a0 len0 cap0 (by omega))
    rw [show decide (1048576 < (len0 : Int)) = false from decide_eq_false (by omega)] at HB
    clear w0 hlen
    go_enter Try.func3, Try.ntmps3
    go_wp2_with fail
    refine (HB.out _).mono ?_
    rintro e w1 ⟨rfl, rfl⟩
    go_wp2_with fail
    refine (Draw.play _ len0 _ CODE.out).mono ?_
    rintro e w1 ⟨n, a, ad, cl, cp, l, rfl, hn, ha, hl, hin, hb1⟩
    have HPI := Lib.hid (Pla.impl n a ad cl cp l ha)
    have HPM := Lib.hid (Pla.model n a ad cl cp l)
    have HLD := Lib.hid (Ld.impl n a ha)
    have PC := Lib.hid (pla_cases n a l)
    generalize plaT n a l = P at *
    generalize ldT n a = Z at *
    have B1 := Lib.hid (bA hb1.size hb1 (o := .cells #[.int .i64 n, .int .i64 a] 25))
    have IN1 := Lib.hid (hin.below (bA (Nat.le_refl _) (Below.refl _ _) (o := .cells #[.int .i64 n, .int .i64 a] 25)))
    have f0 : (w1.alloc (.cells #[.int .i64 n, .int .i64 a] 25)).cell? ⟨w1.heap.size, 0, none⟩ = some (.int .i64 n) := keepN rfl rfl
    have f1 : (w1.alloc (.cells #[.int .i64 n, .int .i64 a] 25)).cell? ⟨w1.heap.size, 1, none⟩ = some (.int .i64 a) := keepN rfl rfl
    have hs1 := hb1.size
    clear hn ha hl hin hb1
    go_wp2_with fail
    refine (HPI.out _ IN1.out).mono ?_
    rintro e w2 ⟨rfl, hb2⟩
    have B2 := Lib.hid (B1.out.trans (hb2.mono B1.out.size))
    have IN2 := Lib.hid (IN1.out.below hb2)
    replace f0 := keepB hb2 f0
    replace f1 := keepB hb2 f1
    have hs2 : w1.heap.size < w2.heap.size := by have := hb2.size; simp at this; omega
    have hs2' := B2.out.size
    clear hb2 B1 IN1
    go_upto_region 5 with fail
    go_cut [52] (fun s wx => s = .bool false ∧ Below W.heap.size W wx)
    case first =>
      as_aux_lemma =>
      go_wp2_with fail
      refine (HPM.out _ IN2.out).mono ?_
      rintro e w3 ⟨rfl, hb3⟩
      have g0 := keepB hb3 f0
      have g1 := keepB hb3 f1
      have hs3 := hb3.size
      rcases PC.out with rfl | ⟨h0, h1, h2⟩
      · go_wp2_with fail
        go_meet
        exact ⟨rfl, by (repeat (first | (with_reducible exact B2.out) | (with_reducible refine bD ?_) | ((with_reducible refine bB hb3 ?_ ?_); (focus (first | omega | (simp; done) | (simp; omega)))) | ((with_reducible refine bA ?_ ?_); (focus (first | omega | (simp; done) | (simp; omega)))) | ((with_reducible refine bS ?_ ?_); (focus (dsimp only; omega)))))⟩
      · have hPP : (P != P) = false := by simp
        have h1n : ¬ P < Z := by omega
        have h2n : ¬ n < P := by omega
        go_wp2_with fail
        refine (HLD.out _).mono ?_
        rintro e w4 ⟨rfl, hb4⟩
        have k0 := keepB hb4 g0
        have k1 := keepB hb4 g1
        have hs4 := hb4.size
        go_wp2_with fail
        go_meet
        exact ⟨by rw [decide_eq_false (Int.not_lt.2 h1n), decide_eq_false (Int.not_lt.2 h2n)]; rfl, by (repeat (first | (with_reducible exact B2.out) | (with_reducible refine bD ?_) | ((with_reducible refine bB hb4 ?_ ?_); (focus (first | omega | (simp; done) | (simp; omega)))) | ((with_reducible refine bB hb3 ?_ ?_); (focus (first | omega | (simp; done) | (simp; omega)))) | ((with_reducible refine bA ?_ ?_); (focus (first | omega | (simp; done) | (simp; omega)))) | ((with_reducible refine bS ?_ ?_); (focus (dsimp only; omega)))))⟩
    case rest =>
      obtain ⟨rfl, hbe⟩ := hcut
      have B3 := Lib.hid hbe
      clear hbe f0 f1 HPI HPM HLD PC IN2 B2 hs2'
      go_wp2_with fail
      refine (Draw.adv _ len0 _ (CODE.out.below B3.out)).mono ?_
      rintro e w5 ⟨n2, a2, m2, v2, i2, rfl, hn, ha, hm, hv, hi, hb5⟩
      have HAI := Lib.hid (Adv.impl n2 a2 m2 v2 i2 ha hv)
      have HAM := Lib.hid (Adv.model n2 a2 m2 v2 i2)
      have HFI := Lib.hid (fun m v hv => For.impl n2 a2 m v ha hv)
      have HAK := Lib.hid (Ask.impl n2 a2 m2 v2 ha hv)
      have HLW := Lib.hid (adv_law (n := n2) (a := a2) (m := m2) (v := v2) (i := i2))
      have HV2 := Lib.hid hv
      have B5 := Lib.hid (bB hb5 B3.out.size B3.out)
      have B6 := Lib.hid (bA B5.out.size B5.out (o := .cells #[.int .i64 n2, .int .i64 a2] 25))
      have f0 : (w5.alloc (.cells #[.int .i64 n2, .int .i64 a2] 25)).cell? ⟨w5.heap.size, 0, none⟩ = some (.int .i64 n2) := keepN rfl rfl
      have f1 : (w5.alloc (.cells #[.int .i64 n2, .int .i64 a2] 25)).cell? ⟨w5.heap.size, 1, none⟩ = some (.int .i64 a2) := keepN rfl rfl
      clear hn ha hm hv hi hb5 B3
      obtain ⟨Q, hQ⟩ : ∃ Q, advT n2 a2 m2 v2 i2 = Q := ⟨_, rfl⟩
      rw [hQ] at HAI HAM
      have HQ := Lib.hid hQ
      clear hQ
      go_wp2_with fail
      refine (HAI.out _).mono ?_
      rintro e w6 ⟨rfl, hb6⟩
      have B7 := Lib.hid (B6.out.trans (hb6.mono B6.out.size))
      replace f0 := keepB hb6 f0
      replace f1 := keepB hb6 f1
      have hs6 : w5.heap.size < w6.heap.size := by have := hb6.size; simp at this; omega
      clear hb6
      go_wp2_with fail
      refine (HAM.out _).mono ?_
      rintro e w7 ⟨rfl, hb7⟩
      have B8 := Lib.hid (B7.out.trans (hb7.mono B7.out.size))
      replace f0 := keepB hb7 f0
      replace f1 := keepB hb7 f1
      have hs7 : w5.heap.size < w7.heap.size := by have := hb7.size; omega
      clear hb7 B5 B6 B7 HAI HAM
      go_upto_if 73 with fail
      go_cut [2] (fun s wx => Below W.heap.size W wx)
      case first =>
        as_aux_lemma =>
        by_cases hq : 0 ≤ Q
        · obtain ⟨N, A, M, V, I, b, L, X, Y, rfl, rfl, rfl, rfl, rfl, hN, hA, hM, hV, hI, hb, hQb, hL, hX, hY, hLX, hYX, hX4, hK⟩ := HLW.out (by rw [HQ.out]; exact hq)
          rw [HQ.out] at hQb
          clear HQ
          subst hQb
          have h2I : 2 ^ I ≤ 8 := Nat.pow_le_pow_right (n := 2) (by decide) (show I ≤ 3 by omega)
          have hbI : b * 2 ^ I ≤ 8 := by rcases (show b = 0 ∨ b = 1 by omega) with rfl | rfl <;> omega
          have hcI : (1 - b) * 2 ^ I ≤ 8 := by rcases (show b = 0 ∨ b = 1 by omega) with rfl | rfl <;> omega
          have hv1 : V ||| b * 2 ^ I < 2 ^ 4 := Nat.or_lt_two_pow (by omega) (by omega)
          have hv2 : V ||| (1 - b) * 2 ^ I < 2 ^ 4 := Nat.or_lt_two_pow (by omega) (by omega)
          have HLL := Lib.hid (HFI.out (M : Int) (V : Int) HV2.out)
          rw [hL] at HLL
          have HXX := Lib.hid (HFI.out ((M ||| 2 ^ I : Nat) : Int) ((V ||| b * 2 ^ I : Nat) : Int) ⟨by omega, by omega⟩)
          rw [hX] at HXX
          have HYY := Lib.hid (HFI.out ((M ||| 2 ^ I : Nat) : Int) ((V ||| (1 - b) * 2 ^ I : Nat) : Int) ⟨by omega, by omega⟩)
          rw [hY] at HYY
          have HS := Lib.hid (one_shl I hI)
          have HR := Lib.hid (shl_all b hb I hI)
          have HR2 := Lib.hid (shl_all (1 - b) (by omega) I hI)
          rw [show (((1 - b : Nat) : Int)) = 1 - (b : Int) by omega] at HR2
          have HOM : Hid (Go.bits .or .i64 (M : Int) ((2 ^ I : Nat) : Int) = ((M ||| 2 ^ I : Nat) : Int)) := Lib.hid (or64 _ _ (by omega) (by omega))
          have HOV : Hid (Go.bits .or .i64 (V : Int) ((b * 2 ^ I : Nat) : Int) = ((V ||| b * 2 ^ I : Nat) : Int)) := Lib.hid (or64 _ _ (by omega) (by omega))
          have HOW : Hid (Go.bits .or .i64 (V : Int) (((1 - b) * 2 ^ I : Nat) : Int) = ((V ||| (1 - b) * 2 ^ I : Nat) : Int)) := Lib.hid (or64 _ _ (by omega) (by omega))
          have HKK := Lib.hid hK
          generalize askT (N : Int) (A : Int) (M : Int) (V : Int) = K at *
          have hIz : (I : Int) < 4 := by omega
          have hbz : (b : Int) < 2 := by omega
          have hsub : IntKind.i64.wrap (1 - (b : Int)) = 1 - (b : Int) := IntWalk.i64_in _ (by omega)
          have hLz : (L : Int) ≤ 5 := by omega
          have hXz : (X : Int) ≤ 4 := by omega
          have t1 : ¬ (X : Int) < (L : Int) - 1 := by omega
          have t2 : ¬ (X : Int) < (Y : Int) := by omega
          clear hA hM hV hI hb hL hX hY hLX hYX hX4 hK h2I hbI hcI hv1 hv2 HFI HLW HV2 hN
          generalize M ||| 2 ^ I = mI at *
          generalize V ||| b * 2 ^ I = vX at *
          generalize V ||| (1 - b) * 2 ^ I = vY at *
          generalize ((b * 2 ^ I : Nat) : Int) = s1 at *
          generalize (((1 - b) * 2 ^ I : Nat) : Int) = s2 at *
          generalize ((2 ^ I : Nat) : Int) = s0 at *
          go_wp2_with fail
          refine (HLL.out _).mono ?_
          rintro e x1 ⟨rfl, hx1⟩
          replace f0 := keepB hx1 f0
          replace f1 := keepB hx1 f1
          have hy1 := hx1.size
          have D1 := Lib.hid (bB hx1 B8.out.size B8.out)
          have hD1 := D1.out.size
          clear hx1
          go_wp2_with fail
          go_region_held3 (fun w' => w'.cell? ⟨w5.heap.size, 0, none⟩ = some (.int .i64 (N : Int)) ∧ w'.cell? ⟨w5.heap.size, 1, none⟩ = some (.int .i64 (A : Int))) ((first | (go_split_ands; (try dsimp only); (refine ⟨?_, ?_⟩ <;> (repeat (first | with_reducible assumption | ((with_reducible refine keepU ?_); (with_reducible assumption)) | (with_reducible refine keepD ?_) | ((with_reducible refine keepN ?_ ?_); (focus (simp; done)); (focus rfl)) | (with_reducible refine keepA ?_) | (with_reducible refine keepB hx2 ?_)))); done) | go_keep))
            (first | ((try rw [HS.out]); (try rw [HR.out]); (try rw [HOM.out]); (try rw [HOV.out]); with_reducible refine (HXX.out _).mono ?_; rintro e x2 ⟨rfl, hx2⟩; obtain ⟨hc2, hf2⟩ := bcell hx2; have hy2 := hx2.size; try simp only [World.size_drew] at hy2))
          have D2 : Hid (Below W.heap.size W x2) := Lib.hid (by (repeat (first | (with_reducible exact D1.out) | (with_reducible refine bD ?_) | ((with_reducible refine bB hx2 ?_ ?_); (focus (first | omega | (simp; done) | (simp; omega)))) | ((with_reducible refine bA ?_ ?_); (focus (first | omega | (simp; done) | (simp; omega)))) | ((with_reducible refine bS ?_ ?_); (focus (dsimp only; omega))))))
          have hD2 := D2.out.size
          replace f0 : x2.cell? ⟨w5.heap.size, 0, none⟩ = some (.int .i64 (N : Int)) := by (repeat (first | with_reducible assumption | ((with_reducible refine keepU ?_); (with_reducible assumption)) | (with_reducible refine keepD ?_) | (with_reducible refine keepB hx2 ?_)))
          replace f1 : x2.cell? ⟨w5.heap.size, 1, none⟩ = some (.int .i64 (A : Int)) := by (repeat (first | with_reducible assumption | ((with_reducible refine keepU ?_); (with_reducible assumption)) | (with_reducible refine keepD ?_) | (with_reducible refine keepB hx2 ?_)))
          clear hx2 hc2 hf2
          go_wp2_with fail
          go_region_held3 (fun w' => w'.cell? ⟨w5.heap.size, 0, none⟩ = some (.int .i64 (N : Int)) ∧ w'.cell? ⟨w5.heap.size, 1, none⟩ = some (.int .i64 (A : Int))) ((first | (go_split_ands; (try dsimp only); (refine ⟨?_, ?_⟩ <;> (repeat (first | with_reducible assumption | ((with_reducible refine keepU ?_); (with_reducible assumption)) | (with_reducible refine keepD ?_) | ((with_reducible refine keepN ?_ ?_); (focus (simp; done)); (focus rfl)) | (with_reducible refine keepA ?_) | (with_reducible refine keepB hx3 ?_)))); done) | go_keep))
            (first | ((try rw [HS.out]); (try rw [hsub]); (try rw [HR2.out]); (try rw [HOM.out]); (try rw [HOW.out]); with_reducible refine (HYY.out _).mono ?_; rintro e x3 ⟨rfl, hx3⟩; obtain ⟨hc3, hf3⟩ := bcell hx3; have hy3 := hx3.size; try simp only [World.size_drew] at hy3))
          have D3 : Hid (Below W.heap.size W x3) := Lib.hid (by (repeat (first | (with_reducible exact D2.out) | (with_reducible refine bD ?_) | ((with_reducible refine bB hx3 ?_ ?_); (focus (first | omega | (simp; done) | (simp; omega)))) | ((with_reducible refine bA ?_ ?_); (focus (first | omega | (simp; done) | (simp; omega)))) | ((with_reducible refine bS ?_ ?_); (focus (dsimp only; omega))))))
          replace f0 : x3.cell? ⟨w5.heap.size, 0, none⟩ = some (.int .i64 (N : Int)) := by (repeat (first | with_reducible assumption | ((with_reducible refine keepU ?_); (with_reducible assumption)) | (with_reducible refine keepD ?_) | (with_reducible refine keepB hx3 ?_)))
          replace f1 : x3.cell? ⟨w5.heap.size, 1, none⟩ = some (.int .i64 (A : Int)) := by (repeat (first | with_reducible assumption | ((with_reducible refine keepU ?_); (with_reducible assumption)) | (with_reducible refine keepD ?_) | (with_reducible refine keepB hx3 ?_)))
          clear hx3 hc3 hf3
          go_wp2_with fail
          refine (HAK.out _).mono ?_
          rintro e x4 ⟨rfl, hx4⟩
          have D4 := Lib.hid (bB hx4 D3.out.size D3.out)
          clear hx4
          by_cases hL0 : (L : Int) = 0
          · have hK0 : K < 0 := HKK.out.2 (by omega)
            have e1 : decide (K < 0) = true := decide_eq_true hK0
            have e2 : ((L : Int) == 0) = true := by simp [hL0]
            have e3 : ((L : Int) = 0) = True := eq_true hL0
            go_wp2_with fail
            go_meet
            exact D4.out
          · have hK0 : ¬ K < 0 := fun h => hL0 (by have := HKK.out.1 h; omega)
            have e1 : decide (K < 0) = false := decide_eq_false hK0
            have e2 : ((L : Int) == 0) = false := by simp; omega
            go_wp2_with fail
            go_meet
            exact D4.out
        · go_wp2_with fail
          go_meet
          exact B8.out
      case rest =>
        as_aux_lemma =>
        have C0 := Lib.hid hcut
        clear hcut f0 f1 HFI HAK HLW B8 HQ HV2
        go_wp2_with fail
        refine (Draw.asked _ len0 _ (CODE.out.below C0.out)).mono ?_
        rintro e y1 ⟨n3, a3, m3, v3, rfl, hn, ha, hm, hv, hd1⟩
        have HKI := Lib.hid (Ask.impl n3 a3 m3 v3 ha hv)
        have HKM := Lib.hid (Ask.model n3 a3 m3 v3)
        generalize askT n3 a3 m3 v3 = k3 at HKI HKM
        have C1 := Lib.hid (bB hd1 C0.out.size C0.out)
        have C1' := Lib.hid (bA C1.out.size C1.out (o := .cells #[.int .i64 n3, .int .i64 a3] 25))
        have k0 : (y1.alloc (.cells #[.int .i64 n3, .int .i64 a3] 25)).cell? ⟨y1.heap.size, 0, none⟩ = some (.int .i64 n3) := keepN rfl rfl
        have k1 : (y1.alloc (.cells #[.int .i64 n3, .int .i64 a3] 25)).cell? ⟨y1.heap.size, 1, none⟩ = some (.int .i64 a3) := keepN rfl rfl
        clear hn ha hm hv hd1 C0
        go_wp2_with fail
        refine (Draw.forced _ len0 _ (CODE.out.below C1'.out)).mono ?_
        rintro e y2 ⟨n4, a4, m4, v4, rfl, hn, ha, hm, hv, hd2⟩
        have HFI := Lib.hid (For.impl n4 a4 m4 v4 ha hv)
        have HFM := Lib.hid (For.model n4 a4 m4 v4)
        generalize forT n4 a4 m4 v4 = k4 at HFI HFM
        have C2 := Lib.hid (bB hd2 C1'.out.size C1'.out)
        have C2' := Lib.hid (bA C2.out.size C2.out (o := .cells #[.int .i64 n4, .int .i64 a4] 25))
        replace k0 := keepA (o := .cells #[.int .i64 n4, .int .i64 a4] 25) (keepB hd2 k0)
        replace k1 := keepA (o := .cells #[.int .i64 n4, .int .i64 a4] 25) (keepB hd2 k1)
        have k2 : (y2.alloc (.cells #[.int .i64 n4, .int .i64 a4] 25)).cell? ⟨y2.heap.size, 0, none⟩ = some (.int .i64 n4) := keepN rfl rfl
        have k3' : (y2.alloc (.cells #[.int .i64 n4, .int .i64 a4] 25)).cell? ⟨y2.heap.size, 1, none⟩ = some (.int .i64 a4) := keepN rfl rfl
        have hz2 : y1.heap.size < y2.heap.size := by have := hd2.size; simp at this; omega
        clear hn ha hm hv hd2 C1 C1'
        go_wp2_with fail
        refine (Draw.evasive _ len0 _ (CODE.out.below C2'.out)).mono ?_
        rintro e y3 ⟨n5, a5, rfl, hn, ha, hd3⟩
        have HEI := Lib.hid (Eva.impl n5 a5 ha)
        have HEM := Lib.hid (Eva.model n5 a5)
        generalize evaB n5 a5 = k5 at HEI HEM
        have C3 := Lib.hid (bB hd3 C2'.out.size C2'.out)
        have C3' := Lib.hid (bA C3.out.size C3.out (o := .cells #[.int .i64 n5, .int .i64 a5] 25))
        replace k0 := keepA (o := .cells #[.int .i64 n5, .int .i64 a5] 25) (keepB hd3 k0)
        replace k1 := keepA (o := .cells #[.int .i64 n5, .int .i64 a5] 25) (keepB hd3 k1)
        replace k2 := keepA (o := .cells #[.int .i64 n5, .int .i64 a5] 25) (keepB hd3 k2)
        replace k3' := keepA (o := .cells #[.int .i64 n5, .int .i64 a5] 25) (keepB hd3 k3')
        have k4' : (y3.alloc (.cells #[.int .i64 n5, .int .i64 a5] 25)).cell? ⟨y3.heap.size, 0, none⟩ = some (.int .i64 n5) := keepN rfl rfl
        have k5' : (y3.alloc (.cells #[.int .i64 n5, .int .i64 a5] 25)).cell? ⟨y3.heap.size, 1, none⟩ = some (.int .i64 a5) := keepN rfl rfl
        have hz3 : y2.heap.size < y3.heap.size := by have := hd3.size; simp at this; omega
        have hz3' : (y3.alloc (.cells #[.int .i64 n5, .int .i64 a5] 25)).heap.size = y3.heap.size + 1 := by simp
        have hWz := C3.out.size
        clear hn ha hd3 C2 C2' C3
        go_wp2_with fail
        generalize y3.alloc (.cells #[.int .i64 n5, .int .i64 a5] 25) = Y3 at *
        go_region_held3 (fun w' => w'.cell? ⟨y1.heap.size, 0, none⟩ = some (.int .i64 n3) ∧ w'.cell? ⟨y1.heap.size, 1, none⟩ = some (.int .i64 a3) ∧ w'.cell? ⟨y2.heap.size, 0, none⟩ = some (.int .i64 n4) ∧ w'.cell? ⟨y2.heap.size, 1, none⟩ = some (.int .i64 a4) ∧ w'.cell? ⟨y3.heap.size, 0, none⟩ = some (.int .i64 n5) ∧ w'.cell? ⟨y3.heap.size, 1, none⟩ = some (.int .i64 a5)) ((first | (go_split_ands; (try dsimp only); (refine ⟨?_, ?_, ?_, ?_, ?_, ?_⟩ <;> (repeat (first | with_reducible assumption | ((with_reducible refine keepU ?_); (with_reducible assumption)) | (with_reducible refine keepD ?_) | ((with_reducible refine keepN ?_ ?_); (focus (simp; done)); (focus rfl)) | (with_reducible refine keepA ?_) | (with_reducible refine keepB hr1 ?_) | (with_reducible refine keepB hr2 ?_) | (with_reducible refine keepB hr3 ?_) | (with_reducible refine keepB hr4 ?_) | (with_reducible refine keepB hr5 ?_) | (with_reducible refine keepB hr6 ?_)))); done) | go_keep))
          (first
            | (with_reducible refine (HKI.out _).mono ?_; rintro e r1 ⟨rfl, hr1⟩; obtain ⟨hc21, hf21⟩ := bcell hr1; have hs21 := hr1.size; try simp only [World.size_drew] at hs21)
            | (with_reducible refine (HKM.out _).mono ?_; rintro e r2 ⟨rfl, hr2⟩; obtain ⟨hc22, hf22⟩ := bcell hr2; have hs22 := hr2.size; try simp only [World.size_drew] at hs22)
            | (with_reducible refine (HFI.out _).mono ?_; rintro e r3 ⟨rfl, hr3⟩; obtain ⟨hc23, hf23⟩ := bcell hr3; have hs23 := hr3.size; try simp only [World.size_drew] at hs23)
            | (with_reducible refine (HFM.out _).mono ?_; rintro e r4 ⟨rfl, hr4⟩; obtain ⟨hc24, hf24⟩ := bcell hr4; have hs24 := hr4.size; try simp only [World.size_drew] at hs24)
            | (with_reducible refine (HEI.out _).mono ?_; rintro e r5 ⟨rfl, hr5⟩; obtain ⟨hc25, hf25⟩ := bcell hr5; have hs25 := hr5.size; try simp only [World.size_drew] at hs25)
            | (with_reducible refine (HEM.out _).mono ?_; rintro e r6 ⟨rfl, hr6⟩; obtain ⟨hc26, hf26⟩ := bcell hr6; have hs26 := hr6.size; try simp only [World.size_drew] at hs26))
        all_goals
          go_wp2
          go_ret
          exact ⟨rfl, by (repeat (first | (with_reducible exact C3'.out) | (with_reducible refine bD ?_) | ((with_reducible refine bB hr6 ?_ ?_); (focus (first | omega | (simp; done) | (simp; omega)))) | ((with_reducible refine bB hr5 ?_ ?_); (focus (first | omega | (simp; done) | (simp; omega)))) | ((with_reducible refine bB hr4 ?_ ?_); (focus (first | omega | (simp; done) | (simp; omega)))) | ((with_reducible refine bB hr3 ?_ ?_); (focus (first | omega | (simp; done) | (simp; omega)))) | ((with_reducible refine bB hr2 ?_ ?_); (focus (first | omega | (simp; done) | (simp; omega)))) | ((with_reducible refine bB hr1 ?_ ?_); (focus (first | omega | (simp; done) | (simp; omega)))) | ((with_reducible refine bA ?_ ?_); (focus (first | omega | (simp; done) | (simp; omega)))) | ((with_reducible refine bS ?_ ?_); (focus (dsimp only; omega)))))⟩
  · have hgt : ¬ (len0 : Int) ≤ 1048576 := hlen
    have hl : (len0 : Int) ≤ 9223372036854775807 := by
      rcases w0 with ⟨_, rfl, _⟩ | ⟨x, rfl, hlc, hm, _⟩
      · omega
      · unfold maxLen at hm; omega
    have HB := Lib.hid (Draw.big a0 len0 cap0 hl)
    rw [show decide (1048576 < (len0 : Int)) = true from decide_eq_true (by omega)] at HB
    clear w0 hlen hgt hl
    go_enter Try.func3, Try.ntmps3
    go_wp2_with fail
    refine (HB.out _).mono ?_
    rintro e w1 ⟨rfl, rfl⟩
    go_wp2
    go_ret
    exact ⟨rfl, Below.refl _ _⟩

set_option maxRecDepth 100000 in
theorem lifted (os : Os) (started : os.Started) (H : Type) (enc : TypeId × Value → H) :
    ReturnsInHanded {} Try.checked os 3 .any (Rows.fnAdversariesSpec.pre6 enc Try.prog Try.f3 Rows.fnAdversariesRow.domain false) (Rows.fnAdversariesSpec.post enc Try.prog Try.f3 false true false false) := by
  refine returnsInHanded_of_change (C := Try.checked) own started (by kernel_rfl) Try.func3
    (ChangeSpec.witness6 (enc := enc) (C := Try.checked) false ⟨#[], #[.slice none 0 0], []⟩ 8 (by kernel_rfl) (by kernel_rfl) (by kernel_rfl) (by kernel_rfl)) ?_
  intro W base args ds gs before hval0 hW hcnd _
  have hval : ∀ (j : Nat) t v, Try.f3.params[j]? = some t → args[j]? = some v → Value.okWide Try.prog W .any base t v := hval0
  have hW' := hW
  obtain ⟨p, q, hA0, hV, rfl, hfz, hnd⟩ := hW
  have hA : DataW.TrodAll enc Try.prog W 0 (fun _ => true) true Try.f3.params.toList args.toList ds p := hA0
  rw [Try.params3] at hA hval
  obtain ⟨v0, vs0, d0, ds0, p0, q0, hargs, rfl, rfl, h0, r0⟩ := trodAll_cons hA
  obtain ⟨rfl, rfl, rfl⟩ := trodAll_nil r0
  obtain rfl : args = #[v0] := by cases args; simp_all
  obtain ⟨rfl, rfl⟩ := trodVars_none hV
  obtain ⟨a0, len0, cap0, rfl⟩ := okWide_slice Try.underlying22 (hval 0 22 v0 rfl rfl)
  have k0 := h0
  have lt0 : ∀ x ∈ p0, x.block < W.heap.size := by obtain ⟨m, hm⟩ := k0; exact DataW.trod_lt m _ _ _ hm
  obtain ⟨z0, w0⟩ : ∃ zs, IsRow .u8 W a0 len0 cap0 zs := by
    obtain ⟨fuel, hf⟩ := h0
    rcases open_ints Try.underlying22 Try.underlying5 (by kernel_rfl) hf with ⟨hcs, _⟩ | ⟨x, l, c, zs, hcs, _, hl, hm, hz, _, hcell, hwz⟩
    · simp [Value.cells] at hcs
      obtain ⟨rfl, rfl, rfl⟩ := hcs
      exact ⟨[], .inl ⟨rfl, rfl, rfl, rfl⟩⟩
    · simp [Value.cells] at hcs
      obtain ⟨rfl, rfl, rfl⟩ := hcs
      exact ⟨zs, .inr ⟨_, rfl, hl, hm, by simpa using hz, hcell, hwz⟩⟩
  clear hA0 hval0
  simp only [List.append_nil] at hW'
  refine (walk a0 len0 cap0 z0 W w0).mono fun e W' ⟨he, bel⟩ => ?_
  subst he
  exact ⟨_, rfl, _, _, _, [], _, [], hW', trodAll_mk1 (shut_bool Try.underlying4 _), (trodAll_cons_mk (Below.trod laidOut (by kernel_rfl) (of_decide_eq_true (by kernel_rfl)) k0 bel lt0) trodAll_mk0), rfl, bel.frame _, fun h => by cases h⟩

theorem proved : Rows.FnAdversariesSaid :=
  OpenClaim.holds_of_wide 3 Try.f3 rfl rfl rfl rfl rfl rfl rfl ⟨rfl, rfl, rfl, rfl, rfl⟩ rfl rfl rfl rfl rfl (by kernel_rfl) Try.func3 (by kernel_rfl)
    (of_decide_eq_true (by kernel_rfl)) (by unfold Func.isWrapper; first | (rw [if_pos (by decide +kernel)]; kernel_rfl) | (rw [if_neg (by decide +kernel)]; exact ⟨rfl, rfl⟩))
    (fun os started H enc _ => lifted os started H enc)
end Go.Proofs.Ytdhdkonokbkdoaa.fnAdversaries
