/-
  For every slice of bytes, the law of prime terms returns true: prime terms, essential ones and minimal sums are the model's, prime terms are prime, sums of the primes and minimal sums have the table, minimal sums have the essential ones, and texts of terms are read back. No condition of its own: the law itself asks nothing of slices longer than 1048576 bytes.
-/
import Derived.Test.YtkamopckpmiioaaRows
import Derived.WalkKit
import Derived.ProofKit
import Derived.OpenShut
import Derived.ShutString
import Derived.Carry
import Derived.Below
import Derived.Lib.SmallJoins
import Derived.Test.YtkamopckpmiioaaTrmQ
import Derived.Deep.RegionHeld3
import Derived.Deep.DeepCutAuto
import Derived.Deep.DrawnRows
import Derived.Deep.QuietTactic
import Derived.BigQuiet
namespace Go.Proofs.Ytkamopckpmiioaa.fnPrimes
open Go.ChangeShapes Go.WideShapes Go.ChangeAt Go.RowKit
open Go.ChangeMaps (open_string shut_string)
open Go.Joins
set_option linter.unusedVariables false

theorem own : ownKnob Try.prog.godebug = none := by kernel_rfl
theorem laidOut : laidOutB Try.prog = true := by kernel_rfl

open Plain
attribute [local go_sem ↓] Go.wp_at_zero Go.wp_at_succ

/-- A slice of integers that came in: it is nil, or it leads to a row of 'cap' cells, the numbers 'zs', each fitting its kind. -/
def IsRow (k : IntKind) (w : World) (a : Option Addr) (len cap : Nat) (zs : List Int) : Prop :=
  (a = none ∧ len = 0 ∧ cap = 0 ∧ zs = []) ∨
  ∃ x, a = some x ∧ len ≤ cap ∧ cap ≤ maxLen ∧ zs.length = cap ∧ (∀ i, i < zs.length → w.cell? (x.add i) = some (.int k (zs.getD i 0))) ∧ ∀ n ∈ zs, (Lit.int k n).wf = true

theorem codeIn {w : World} {a : Option Addr} {len cap : Nat} {zs : List Int} (h : IsRow .u8 w a len cap zs) (hl : (len : Int) ≤ 1048576) : CodeIn w (.slice a len cap) len := by
  refine ⟨a, cap, rfl, by omega, fun h0 => ?_⟩
  rcases h with ⟨_, rfl, _⟩ | ⟨x, rfl, hlc, hm, hz, hcell, hwf⟩
  · omega
  · obtain ⟨ab, off, spot⟩ := x
    have hc := hcell 0 (by omega)
    have hspot : spot = none := by simpa [Addr.add] using World.cell?_spot hc
    subst hspot
    have hlt := World.block_lt_of_cell? w _ hc
    refine ⟨ab, off, rfl, by simpa [Addr.add] using hlt, fun j hj => ?_⟩
    have hj' : j < zs.length := by omega
    have hb := hwf (zs.getD j 0) (by simp [List.getD, hj'])
    have e1 : IntKind.u8.min = 0 := rfl
    have e2 : IntKind.u8.max = 255 := rfl
    simp only [Lit.wf, Bool.and_eq_true, decide_eq_true_eq, e1, e2] at hb
    have hadd : (⟨ab, off, none⟩ : Addr).add j = ⟨ab, off + j, none⟩ := by unfold Addr.add; split <;> simp_all
    exact ⟨zs.getD j 0, hb.1, hb.2, hadd ▸ hcell j hj'⟩

theorem par_read (n m v : Int) : ∃ P Q : Int, parO (parT n (fmtTm n m v)) = .tuple #[.agg #[.int .i64 P, .int .i64 Q], .bool (isTm n m v)] ∧ (isTm n m v = true → P = m ∧ Q = v) := by
  cases h : isTm n m v with
  | false =>
    refine ⟨0, 0, ?_, fun h => by cases h⟩
    rw [fmtTm_no h, parT_nil]; rfl
  | true =>
    obtain ⟨a, b, c, rfl, rfl, rfl, ha, hb, hc⟩ := isTm_nat h
    exact ⟨b, c, by rw [parT_back h]; rfl, fun _ => ⟨rfl, rfl⟩⟩

theorem rowOf {w : World} {a : Option Addr} {cap : Nat} {l : List Ti} (h : TmsIn w (.slice a l.length cap) l) :
    0 < l.length → ∃ b off, a = some ⟨b, off, none⟩ ∧ b < w.heap.size ∧ ∀ j, j < l.length → w.cell? ⟨b, off + j * 2, none⟩ = some (.int .i64 (l.getD j (0, 0)).1) ∧ w.cell? ⟨b, off + j * 2 + 1, none⟩ = some (.int .i64 (l.getD j (0, 0)).2) := by
  obtain ⟨a', cap', e, _, _, _, _, h⟩ := h
  simp only [Value.slice.injEq, true_and] at e
  obtain ⟨rfl, rfl⟩ := e
  exact h

set_option maxRecDepth 100000 in
set_option maxHeartbeats 8000000 in
theorem walk (a0 : Option Addr) (len0 cap0 : Nat) (z0 : List Int) (W : World) (w0 : IsRow .u8 W a0 len0 cap0 z0) :
    Calls Try.prog 13 #[.slice a0 len0 cap0] W fun e w' => e = .returned (.bool true) ∧ Below W.heap.size W w' := by
  by_cases hlen : (len0 : Int) ≤ 1048576
  · have CODE := Lib.hid (codeIn w0 hlen)
    have HB := Lib.hid (Big.no a0 len0 cap0 hlen)
    clear w0 hlen
    go_enter Try.func13, Try.ntmps13
    go_wp2_with fail
    refine (HB.out _).mono ?_
    rintro e w1 ⟨rfl, rfl⟩
    go_wp2_with fail
    refine (Draw.minimal _ len0 _ CODE.out).mono ?_
    rintro e w1 ⟨n, a, rfl, hn, ha, hb1⟩
    have B1 := Lib.hid (bA hb1.size hb1 (o := .cells #[.int .i64 n, .int .i64 a] 38))
    have f0 : (w1.alloc (.cells #[.int .i64 n, .int .i64 a] 38)).cell? ⟨w1.heap.size, 0, none⟩ = some (.int .i64 n) := keepN rfl rfl
    have f1 : (w1.alloc (.cells #[.int .i64 n, .int .i64 a] 38)).cell? ⟨w1.heap.size, 1, none⟩ = some (.int .i64 a) := keepN rfl rfl
    have hs1 := hb1.size
    have A64 := Lib.hid ha
    have HMI := Lib.hid (Min.I n a ha)
    have HMM := Lib.hid (Min.M n a)
    have HPI := Lib.hid (Prm.ofI n a ha)
    have HPM := Lib.hid (Prm.ofM n a)
    have HEI := Lib.hid (Ess.I n a ha)
    have HEM := Lib.hid (Ess.M n a)
    have HMO := Lib.hid (minT_ok n a)
    have HPO := Lib.hid (primesT_ok n a)
    have HEO := Lib.hid (essT_ok n a)
    have HLP := Lib.hid (law_prime n a)
    have HLT := Lib.hid (law_tables (n := n) (a := a))
    have HLW := Lib.hid (law_few (n := n) (a := a))
    have HLF := Lib.hid (law_found (n := n) (a := a))
    generalize minT n a = mT at HMI HMM HMO HLT HLW HLF
    generalize primesT n a = pT at HPI HPM HPO HLP HLT
    generalize essT n a = eT at HEI HEM HEO HLW HLF
    generalize isT n a = ok at HPI HPM HEI HEM
    generalize minOk n a = mk at HMI HMM HLT HLW HLF
    have HMR : ∀ {X : World} {B : Nat} {v : Value}, TmRow X B v mT → TmsIn X v mT := fun h => h.terms (by have := HMO.out.1; omega) HMO.out.2
    have HPR : ∀ {X : World} {B : Nat} {v : Value}, TmRow X B v pT → TmsIn X v pT := fun h => h.terms (by have := HPO.out.1; omega) HPO.out.2
    have HER : ∀ {X : World} {B : Nat} {v : Value}, TmRow X B v eT → TmsIn X v eT := fun h => h.terms (by have := HEO.out.1; omega) HEO.out.2
    clear hn ha hb1
    go_wp2_with fail
    refine (HMI.out _).mono ?_
    rintro e w2 ⟨⟨v4, rfl, hr4⟩, hb2⟩
    have T4 := Lib.hid (HMR hr4)
    have B2 := Lib.hid (B1.out.trans (hb2.mono B1.out.size))
    replace f0 := keepB hb2 f0
    replace f1 := keepB hb2 f1
    have hs2 : w1.heap.size + 1 ≤ w2.heap.size := by simpa using hb2.size
    clear hr4 hb2
    go_wp2_with fail
    refine (HMM.out _).mono ?_
    rintro e w3 ⟨⟨v6, rfl, hr6⟩, hb3⟩
    have T6 := Lib.hid (HMR hr6)
    replace T4 := Lib.hid (T4.out.below hb3)
    have B3 := Lib.hid (B2.out.trans (hb3.mono B2.out.size))
    replace f0 := keepB hb3 f0
    replace f1 := keepB hb3 f1
    have hs3 := hb3.size
    clear hr6 hb3
    go_wp2_with fail
    refine (Terms.same _ _ mT _ T4.out T6.out).mono ?_
    rintro e w4 ⟨rfl, hb4⟩
    replace T6 := Lib.hid (T6.out.below hb4)
    have B4 := Lib.hid (B3.out.trans (hb4.mono B3.out.size))
    replace f0 := keepB hb4 f0
    replace f1 := keepB hb4 f1
    have hs4 := hb4.size
    clear hb4 T4
    go_wp2_with fail
    refine (HPI.out _).mono ?_
    rintro e w5 ⟨⟨v8, rfl, hr8⟩, hb5⟩
    have T8 := Lib.hid (HPR hr8)
    replace T6 := Lib.hid (T6.out.below hb5)
    have B5 := Lib.hid (B4.out.trans (hb5.mono B4.out.size))
    replace f0 := keepB hb5 f0
    replace f1 := keepB hb5 f1
    have hs5 := hb5.size
    clear hr8 hb5
    go_wp2_with fail
    refine (HPM.out _).mono ?_
    rintro e w6 ⟨⟨v10, rfl, hr10⟩, hb6⟩
    have T10 := Lib.hid (HPR hr10)
    replace T6 := Lib.hid (T6.out.below hb6)
    replace T8 := Lib.hid (T8.out.below hb6)
    have B6 := Lib.hid (B5.out.trans (hb6.mono B5.out.size))
    replace f0 := keepB hb6 f0
    replace f1 := keepB hb6 f1
    have hs6 := hb6.size
    clear hr10 hb6
    go_wp2_with fail
    refine (HEI.out _).mono ?_
    rintro e w7 ⟨⟨v12, rfl, hr12⟩, hb7⟩
    have T12 := Lib.hid (HER hr12)
    replace T6 := Lib.hid (T6.out.below hb7)
    replace T8 := Lib.hid (T8.out.below hb7)
    replace T10 := Lib.hid (T10.out.below hb7)
    have B7 := Lib.hid (B6.out.trans (hb7.mono B6.out.size))
    replace f0 := keepB hb7 f0
    replace f1 := keepB hb7 f1
    have hs7 := hb7.size
    clear hr12 hb7
    go_wp2_with fail
    refine (HEM.out _).mono ?_
    rintro e w8 ⟨⟨v14, rfl, hr14⟩, hb8⟩
    have T14 := Lib.hid (HER hr14)
    replace T6 := Lib.hid (T6.out.below hb8)
    replace T8 := Lib.hid (T8.out.below hb8)
    replace T10 := Lib.hid (T10.out.below hb8)
    replace T12 := Lib.hid (T12.out.below hb8)
    have B8 := Lib.hid (B7.out.trans (hb8.mono B7.out.size))
    replace f0 := keepB hb8 f0
    replace f1 := keepB hb8 f1
    have hs8 := hb8.size
    clear hr14 hb8
    go_wp2_with fail
    refine (Terms.same _ _ pT _ T8.out T10.out).mono ?_
    rintro e w9 ⟨rfl, hb9⟩
    replace T6 := Lib.hid (T6.out.below hb9)
    replace T10 := Lib.hid (T10.out.below hb9)
    replace T12 := Lib.hid (T12.out.below hb9)
    replace T14 := Lib.hid (T14.out.below hb9)
    have B9 := Lib.hid (B8.out.trans (hb9.mono B8.out.size))
    replace f0 := keepB hb9 f0
    replace f1 := keepB hb9 f1
    have hs9 := hb9.size
    clear hb9 T8
    go_wp2_with fail
    refine (Terms.same _ _ eT _ T12.out T14.out).mono ?_
    rintro e w10 ⟨rfl, hb10⟩
    replace T6 := Lib.hid (T6.out.below hb10)
    replace T10 := Lib.hid (T10.out.below hb10)
    replace T14 := Lib.hid (T14.out.below hb10)
    have B10 := Lib.hid (B9.out.trans (hb10.mono B9.out.size))
    replace f0 := keepB hb10 f0
    replace f1 := keepB hb10 f1
    have hs10 : w1.heap.size < w10.heap.size := by have := hb10.size; omega
    clear hb10 T12 hs1 hs2 hs3 hs4 hs5 hs6 hs7 hs8 hs9 B1 B2 B3 B4 B5 B6 B7 B8 B9 HMI HMM HPI HPM HEI HEM
    obtain ⟨ad6, cp6, rfl, hl6, hca6, hcb6, _, hrd6⟩ := T6.out
    obtain ⟨ad10, cp10, rfl, hl10, hca10, hcb10, _, hrd10⟩ := T10.out
    obtain ⟨ad14, cp14, rfl, hl14, hca14, hcb14, _, hrd14⟩ := T14.out
    have R6 := Lib.hid hrd6
    have R10 := Lib.hid hrd10
    have R14 := Lib.hid hrd14
    clear hrd6 hrd10 hrd14
    go_wp2
    go_loopw [16] (fun i wr => ∃ k : Nat, i = .int .i64 (k : Int) ∧ k ≤ pT.length ∧ Below w10.heap.size w10 wr) (fun i _ => pT.length - (intOf i).toNat)
    case atStart => exact ⟨0, rfl, by omega, Below.refl _ _⟩
    case round =>
      obtain ⟨k, rfl, hk, hbel⟩ := hrel
      have HBEL := Lib.hid hbel
      have c0 := keepB hbel f0
      have c1 := keepB hbel f1
      have hsz := hbel.size
      by_cases hlt : k < pT.length
      · obtain ⟨bb, off, rfl, hbw, hcl⟩ := R10.out (by omega)
        have hkz : (k : Int) < (pT.length : Int) := by omega
        have hlp := HLP.out k hlt
        have hsm := HPO.out.2 _ (getDt hlt)
        obtain ⟨t0, t1⟩ := hcl k hlt
        have d0 := (hbel.cell (p := ⟨bb, off + k * 2, none⟩) hbw).trans t0
        have d1 := (hbel.cell (p := ⟨bb, off + k * 2 + 1, none⟩) hbw).trans t1
        generalize (pT.getD k (0, 0)).1 = p at hlp hsm d0 t0
        generalize (pT.getD k (0, 0)).2 = q at hlp hsm d1 t1
        have HP1 := Lib.hid (Trm.prmI n a p q A64.out hsm.2)
        have HP2 := Lib.hid (Trm.impI n a p q A64.out hsm.2)
        rw [hlp.1] at HP1
        rw [hlp.2] at HP2
        clear hcl hlp hsm hbel hlt t0 t1
        have hsA : w10.heap.size ≤ wr.heap.size := hsz
        go_wp2_with fail
        go_region_held3 (fun w' => w'.cell? ⟨w1.heap.size, 0, none⟩ = some (.int .i64 n) ∧ w'.cell? ⟨w1.heap.size, 1, none⟩ = some (.int .i64 a) ∧ w'.cell? ⟨bb, off + k * 2, none⟩ = some (.int .i64 p) ∧ w'.cell? ⟨bb, off + k * 2 + 1, none⟩ = some (.int .i64 q))
          ((first | (go_split_ands; (try dsimp only); (refine ⟨?_, ?_, ?_, ?_⟩ <;> (repeat (first | with_reducible assumption | ((with_reducible refine keepU ?_); (with_reducible assumption)) | (with_reducible refine keepD ?_) | (with_reducible refine keepB hbB ?_) | (with_reducible refine keepB hbA ?_)))); done) | go_keep))
          (first | (go_at_call 28; refine (HP1.out _).mono ?_; rintro e wA ⟨rfl, hbA⟩) | (go_at_call 26; refine (HP2.out _).mono ?_; rintro e wB ⟨rfl, hbB⟩))
        have HBB := Lib.hid (bB hbB (by have := hbA.size; simp at this; omega) (bB hbA (by simpa using hsA) (bD HBEL.out)))
        clear hbA hbB
        go_wp2
        go_roundw
        case rel => exact ⟨k + 1, by go_num, by omega, HBB.out⟩
        case measure => simp [intOf] <;> omega
      · obtain rfl : k = pT.length := by omega
        have BW := Lib.hid (B10.out.trans (hbel.mono B10.out.size))
        have I6 := Lib.hid (T6.out.below hbel)
        have I10 := Lib.hid (T10.out.below hbel)
        have I14 := Lib.hid (T14.out.below hbel)
        have R6w : Hid (0 < mT.length → ∃ b off, ad6 = some ⟨b, off, none⟩ ∧ b < wr.heap.size ∧ ∀ j, j < mT.length → wr.cell? ⟨b, off + j * 2, none⟩ = some (.int .i64 (mT.getD j (0, 0)).1) ∧ wr.cell? ⟨b, off + j * 2 + 1, none⟩ = some (.int .i64 (mT.getD j (0, 0)).2)) := Lib.hid (rowOf I6.out)
        have R14w : Hid (0 < eT.length → ∃ b off, ad14 = some ⟨b, off, none⟩ ∧ b < wr.heap.size ∧ ∀ j, j < eT.length → wr.cell? ⟨b, off + j * 2, none⟩ = some (.int .i64 (eT.getD j (0, 0)).1) ∧ wr.cell? ⟨b, off + j * 2 + 1, none⟩ = some (.int .i64 (eT.getD j (0, 0)).2)) := Lib.hid (rowOf I14.out)
        have hzw : w1.heap.size < wr.heap.size := by omega
        clear hbel hlt HBEL T6 T10 T14 R6 R10 R14 f0 f1 B10 hsz hs10
        obtain ⟨Y, rfl⟩ : ∃ Y, Y = wr := ⟨wr, rfl⟩
        go_upto_if 130 with fail
        go_cut [2] (fun s wx => Below W.heap.size W wx)
        case first => as_aux_lemma =>
          cases mk with
          | false =>
            go_wp2_with fail
            go_meet
            exact BW.out
          | true =>
            have HT1 := Lib.hid (Tot.I n mT ad6 cp6 Y I6.out)
            have L1 := Lib.hid (HLT.out rfl)
            have L2 := Lib.hid (HLF.out rfl)
            rw [L1.out.1] at HT1
            have HFEW : Hid ((eT.length : Int) ≤ (mT.length : Int)) := Lib.hid (by
              by_cases h : (mT.length : Int) < (eT.length : Int)
              · exact ((HLW.out rfl).1 h).elim
              · omega)
            go_wp2_with fail
            refine (HT1.out).mono ?_
            rintro e x1 ⟨rfl, hx1⟩
            have C0 := keepA (o := .cells #[.int .i64 n, .int .i64 a] 38) (keepB hx1 c0)
            have C1 := keepA (o := .cells #[.int .i64 n, .int .i64 a] 38) (keepB hx1 c1)
            have D0 : (x1.alloc (.cells #[.int .i64 n, .int .i64 a] 38)).cell? ⟨x1.heap.size, 0, none⟩ = some (.int .i64 n) := keepN rfl rfl
            have D1 : (x1.alloc (.cells #[.int .i64 n, .int .i64 a] 38)).cell? ⟨x1.heap.size, 1, none⟩ = some (.int .i64 a) := keepN rfl rfl
            have BX1 := Lib.hid ((Below.refl Y.heap.size Y).trans (bA hx1.size hx1 (o := .cells #[.int .i64 n, .int .i64 a] 38)))
            have hz1 : Y.heap.size ≤ x1.heap.size := hx1.size
            have HT2 := Lib.hid (Tot.I n pT ad10 cp10 _ (I10.out.below BX1.out))
            rw [L1.out.2] at HT2
            clear hx1
            go_wp2_with fail
            refine (HT2.out).mono ?_
            rintro e x2 ⟨rfl, hx2⟩
            replace C0 := keepA (o := .cells #[.int .i64 n, .int .i64 a] 38) (keepB hx2 C0)
            replace C1 := keepA (o := .cells #[.int .i64 n, .int .i64 a] 38) (keepB hx2 C1)
            replace D0 := keepA (o := .cells #[.int .i64 n, .int .i64 a] 38) (keepB hx2 D0)
            replace D1 := keepA (o := .cells #[.int .i64 n, .int .i64 a] 38) (keepB hx2 D1)
            have E0 : (x2.alloc (.cells #[.int .i64 n, .int .i64 a] 38)).cell? ⟨x2.heap.size, 0, none⟩ = some (.int .i64 n) := keepN rfl rfl
            have E1 : (x2.alloc (.cells #[.int .i64 n, .int .i64 a] 38)).cell? ⟨x2.heap.size, 1, none⟩ = some (.int .i64 a) := keepN rfl rfl
            have hz2 : x1.heap.size + 1 ≤ x2.heap.size := by simpa using hx2.size
            have BX2 := Lib.hid (BX1.out.trans (bA (show Y.heap.size ≤ x2.heap.size by omega) (hx2.mono (by rw [World.size_alloc]; omega)) (o := .cells #[.int .i64 n, .int .i64 a] 38)))
            clear hx2 BX1
            have hfew := HFEW.out
            go_wp2_with fail
            obtain ⟨X, hX⟩ : ∃ X, x2.alloc (.cells #[.int .i64 n, .int .i64 a] 38) = X := ⟨_, rfl⟩
            rw [hX] at BX2 ⊢
            clear C0 C1 D0 D1 E0 E1 hX
            go_loopw [21, 22, 23] (fun i _ _ wx => ∃ y : Nat, i = .int .i64 (y : Int) ∧ y ≤ eT.length ∧ Below Y.heap.size Y wx) (fun i _ _ _ => eT.length - (intOf i).toNat)
            case atStart => exact ⟨0, rfl, by omega, BX2.out⟩
            case round =>
              obtain ⟨y, rfl, hy, hbx⟩ := hrel
              have HBX := Lib.hid hbx
              clear hbx
              by_cases hyl : y < eT.length
              · obtain ⟨eb, eo, rfl, hew, hec⟩ := R14w.out (by omega)
                obtain ⟨jf, hjf, hje⟩ := L2.out y hyl
                obtain ⟨mb, mo, rfl, hmw, hmc⟩ := R6w.out (by omega)
                have HMC := Lib.hid hmc
                obtain ⟨e0, e1⟩ := hec y hyl
                have HE0 := Lib.hid e0
                have HE1 := Lib.hid e1
                have HEND : Hid (foundU mT (eT.getD y (0, 0)) mT.length = true) := Lib.hid ((foundU_iff _ _ _).2 ⟨jf, hjf, hje⟩)
                have hyz : (y : Int) < (eT.length : Int) := by omega
                obtain ⟨et, het⟩ : ∃ et, eT.getD y (0, 0) = et := ⟨_, rfl⟩
                rw [het] at HEND HE0 HE1
                clear hec hmc e0 e1 hje hjf het
                go_wp2
                go_loopw [22, 23] (fun fd i wx => ∃ z : Nat, i = .int .i64 (z : Int) ∧ z ≤ mT.length ∧ fd = .bool (foundU mT et z) ∧ Below Y.heap.size Y wx) (fun _ i _ => mT.length - (intOf i).toNat)
                case atStart => exact ⟨0, rfl, by omega, rfl, HBX.out⟩
                case round =>
                  obtain ⟨z, rfl, hz, rfl, hbz⟩ := hrel
                  have HBZ := Lib.hid hbz
                  by_cases hzl : z < mT.length
                  · have hzz : (z : Int) < (mT.length : Int) := by omega
                    have g0 := (hbz.cell (p := ⟨eb, eo + y * 2, none⟩) hew).trans HE0.out
                    have g1 := (hbz.cell (p := ⟨eb, eo + y * 2 + 1, none⟩) hew).trans HE1.out
                    have h0 := (hbz.cell (p := ⟨mb, mo + z * 2, none⟩) hmw).trans (HMC.out z hzl).1
                    have h1 := (hbz.cell (p := ⟨mb, mo + z * 2 + 1, none⟩) hmw).trans (HMC.out z hzl).2
                    have HST : Hid (foundU mT et (z + 1) = (foundU mT et z || decide (mT.getD z (0, 0) = et))) := Lib.hid rfl
                    obtain ⟨mt, hmt⟩ : ∃ mt, mT.getD z (0, 0) = mt := ⟨_, rfl⟩
                    rw [hmt] at h0 h1 HST
                    generalize foundU mT et z = fb at HST ⊢
                    clear hbz hmt hzl
                    cases fb with
                    | true =>
                      go_wp2_with fail
                      go_quiet (fail)
                      all_goals
                        go_wp2
                        go_roundw
                        case rel => exact ⟨z + 1, by go_num, by omega, by rw [HST.out]; rfl, below_drewN HBZ.out _⟩
                        case measure => simp [intOf] <;> omega
                    | false =>
                      by_cases h3 : mt = et
                      · have HEQ := Lib.hid h3
                        have h4 : mt.1 = et.1 := by rw [h3]
                        have h5 : mt.2 = et.2 := by rw [h3]
                        rw [h4] at h0
                        rw [h5] at h1
                        clear h3 h4 h5
                        go_wp2_with fail
                        go_quiet (fail)
                        go_wp2
                        go_roundw
                        case rel => exact ⟨z + 1, by go_num, by omega, by rw [HST.out, decide_eq_true HEQ.out]; rfl, below_drewN HBZ.out _⟩
                        case measure => simp [intOf] <;> omega
                      · have HNE : Hid (mt ≠ et) := Lib.hid h3
                        by_cases h4 : mt.1 = et.1
                        · have h5 : (mt.2 == et.2) = false := by
                            rw [beq_eq_false_iff_ne]; exact fun h => h3 (Prod.ext h4 h)
                          rw [h4] at h0
                          clear h3 h4
                          go_wp2_with fail
                          go_quiet (fail)
                          all_goals
                            go_wp2
                            go_roundw
                            case rel => exact ⟨z + 1, by go_num, by omega, by rw [HST.out, decide_eq_false HNE.out]; rfl, below_drewN HBZ.out _⟩
                            case measure => simp [intOf] <;> omega
                        · have h5 : (mt.1 == et.1) = false := by
                            rw [beq_eq_false_iff_ne]; exact h4
                          clear h3 h4
                          go_wp2_with fail
                          go_quiet (fail)
                          all_goals
                            go_wp2
                            go_roundw
                            case rel => exact ⟨z + 1, by go_num, by omega, by rw [HST.out, decide_eq_false HNE.out]; rfl, below_drewN HBZ.out _⟩
                            case measure => simp [intOf] <;> omega
                  · obtain rfl : z = mT.length := by omega
                    rw [HEND.out]
                    clear hzl hbz
                    go_wp2_with fail
                    go_roundw
                    case rel => exact ⟨y + 1, by go_num, by omega, HBZ.out⟩
                    case measure => simp [intOf] <;> omega
              · go_wp2_with fail
                go_meet
                exact BW.out.trans (HBX.out.mono BW.out.size)
        case rest => as_aux_lemma =>
          have BC := Lib.hid hcut
          have CC := Lib.hid (CODE.out.below hcut)
          clear hcut BW I6 I10 I14 R6w R14w HLP HLT HLW HLF HMO HPO HEO
          go_wp2_with fail
          refine (Draw.format _ len0 _ CC.out).mono ?_
          rintro e y1 ⟨n1, m1, v1, rfl, hn1, hm1, hv1, hy1⟩
          have V64 := Lib.hid hv1
          have BY1 := Lib.hid (bA (o := .cells #[.int .i64 m1, .int .i64 v1] 25) hy1.size hy1)
          have f0 : (y1.alloc (.cells #[.int .i64 m1, .int .i64 v1] 25)).cell? ⟨y1.heap.size, 0, none⟩ = some (.int .i64 m1) := keepN rfl rfl
          have f1 : (y1.alloc (.cells #[.int .i64 m1, .int .i64 v1] 25)).cell? ⟨y1.heap.size, 1, none⟩ = some (.int .i64 v1) := keepN rfl rfl
          have hzc : wc.heap.size ≤ y1.heap.size := hy1.size
          have HFI := Lib.hid (Trm.fmtI n1 m1 v1 hv1)
          have HFM := Lib.hid (Trm.fmtM n1 m1 v1)
          have HIM := Lib.hid (Trm.isM n1 m1 v1)
          have HII := Lib.hid (Trm.isI n1 m1 v1 hv1)
          obtain ⟨st, hst⟩ : ∃ st : ByteArray, (⟨(fmtTm n1 m1 v1).toArray⟩ : ByteArray) = st := ⟨_, rfl⟩
          have HST : Hid (st.data.toList = fmtTm n1 m1 v1) := Lib.hid (by rw [← hst])
          have HPI := Lib.hid (Ptm.I n1 st)
          rw [HST.out] at HPI
          obtain ⟨P, Q, hpar, hPQ⟩ := par_read n1 m1 v1
          rw [hpar] at HPI
          generalize isTm n1 m1 v1 = bt at HIM HII HPI hPQ
          have HPQ := Lib.hid hPQ
          rw [hst] at HFI HFM
          have hre : (st.toList == st.toList) = true := by simp
          clear hn1 hm1 hv1 hy1 hst hpar hPQ
          have E1 : Hid (Below wc.heap.size wc (y1.alloc (.cells #[.int .i64 m1, .int .i64 v1] 25))) := BY1
          go_wp2_with fail
          refine (HFI.out _).mono ?_
          rintro e y2 ⟨rfl, hy2⟩
          replace f0 := keepB hy2 f0
          replace f1 := keepB hy2 f1
          have BY2 := Lib.hid (BY1.out.trans (hy2.mono BY1.out.size))
          have hz2 : y1.heap.size < y2.heap.size := by have := hy2.size; simp at this; omega
          clear hy2 BY1 E1
          go_wp2_with fail
          refine (HPI.out _).mono ?_
          rintro e y3 ⟨rfl, hy3⟩
          replace f0 := keepB hy3 f0
          replace f1 := keepB hy3 f1
          have BY3 := Lib.hid (BY2.out.trans (hy3.mono BY2.out.size))
          have hz3 : y2.heap.size ≤ y3.heap.size := hy3.size
          clear hy3 BY2
          have BY4 := Lib.hid (bA (o := .cells #[.int .i64 P, .int .i64 Q] 25) (show wc.heap.size ≤ y3.heap.size by omega) BY3.out)
          replace f0 := keepA (o := .cells #[.int .i64 P, .int .i64 Q] 25) f0
          replace f1 := keepA (o := .cells #[.int .i64 P, .int .i64 Q] 25) f1
          have g0 : (y3.alloc (.cells #[.int .i64 P, .int .i64 Q] 25)).cell? ⟨y3.heap.size, 0, none⟩ = some (.int .i64 P) := keepN rfl rfl
          have g1 : (y3.alloc (.cells #[.int .i64 P, .int .i64 Q] 25)).cell? ⟨y3.heap.size, 1, none⟩ = some (.int .i64 Q) := keepN rfl rfl
          clear BY3
          go_upto_region 37 with fail
          go_cut [234] (fun s wx => s = .bool false ∧ Below W.heap.size W wx)
          case first => as_aux_lemma =>
            cases bt with
            | false =>
              go_wp2_with fail
              refine (HFM.out _).mono ?_
              rintro e y4 ⟨rfl, hy4⟩
              have BY5 := Lib.hid (BY4.out.trans (hy4.mono BY4.out.size))
              have hz4 : y3.heap.size < y4.heap.size := by have := hy4.size; simp at this; omega
              replace f0 := keepB hy4 f0
              replace f1 := keepB hy4 f1
              clear hy4 BY4
              go_wp2_with fail
              refine (HIM.out _).mono ?_
              rintro e y5 ⟨rfl, hy5⟩
              have BY6 := Lib.hid (BY5.out.trans (hy5.mono BY5.out.size))
              replace f0 := keepB hy5 f0
              replace f1 := keepB hy5 f1
              have hz5 : y4.heap.size ≤ y5.heap.size := hy5.size
              clear hy5 BY5
              go_wp2_with fail
              refine (HII.out _).mono ?_
              rintro e y6 ⟨rfl, hy6⟩
              have BY7 := Lib.hid (BY6.out.trans (hy6.mono BY6.out.size))
              clear hy6 BY6
              go_wp2_with fail
              go_meet
              exact ⟨rfl, BC.out.trans (BY7.out.mono BC.out.size)⟩
            | true =>
              obtain ⟨hP, hQ⟩ := HPQ.out rfl
              subst hP hQ
              go_wp2_with fail
              refine (HFM.out _).mono ?_
              rintro e y4 ⟨rfl, hy4⟩
              have BY5 := Lib.hid (BY4.out.trans (hy4.mono BY4.out.size))
              have hz4 : y3.heap.size < y4.heap.size := by have := hy4.size; simp at this; omega
              replace f0 := keepB hy4 f0
              replace f1 := keepB hy4 f1
              replace g0 := keepB hy4 g0
              replace g1 := keepB hy4 g1
              clear hy4 BY4
              go_wp2_with fail
              refine (HIM.out _).mono ?_
              rintro e y5 ⟨rfl, hy5⟩
              have BY6 := Lib.hid (BY5.out.trans (hy5.mono BY5.out.size))
              replace f0 := keepB hy5 f0
              replace f1 := keepB hy5 f1
              replace g0 := keepB hy5 g0
              replace g1 := keepB hy5 g1
              have hz5 : y4.heap.size ≤ y5.heap.size := hy5.size
              clear hy5 BY5
              go_wp2_with fail
              refine (HII.out _).mono ?_
              rintro e y6 ⟨rfl, hy6⟩
              have BY7 := Lib.hid (BY6.out.trans (hy6.mono BY6.out.size))
              replace f0 := keepB hy6 f0
              replace f1 := keepB hy6 f1
              replace g0 := keepB hy6 g0
              replace g1 := keepB hy6 g1
              clear hy6 BY6
              go_wp2_with fail
              go_meet
              exact ⟨rfl, BC.out.trans (BY7.out.mono BC.out.size)⟩
          case rest => as_aux_lemma =>
            obtain ⟨rfl, hbd⟩ := hcut
            have BD := Lib.hid hbd
            have CD := Lib.hid (CODE.out.below hbd)
            clear hbd BC CC BY4 f0 f1 g0 g1 hz2 hz3 hzc HST HPI HFI HFM HIM HII HPQ
            go_wp2_with fail
            refine (Draw.parse _ len0 _ CD.out).mono ?_
            rintro e z1 ⟨n2, t2, rfl, hn2, ht2, hz1⟩
            have BZ1 := Lib.hid (BD.out.trans (hz1.mono BD.out.size))
            have HPI2 := Lib.hid (Ptm.I n2 t2)
            have HPM2 := Lib.hid (Ptm.M n2 t2 (by omega))
            generalize parT n2 t2.data.toList = o2 at HPI2 HPM2
            unfold parO at HPI2 HPM2
            generalize ((o2.getD (0, 0)).1 : Int) = P2 at HPI2 HPM2
            generalize ((o2.getD (0, 0)).2 : Int) = Q2 at HPI2 HPM2
            generalize o2.isSome = c2 at HPI2 HPM2
            clear hn2 ht2 hz1 BD
            go_wp2_with fail
            refine (HPI2.out _).mono ?_
            rintro e z2 ⟨rfl, hz2⟩
            have BZ2 := Lib.hid (BZ1.out.trans (hz2.mono BZ1.out.size))
            have BA2 := Lib.hid (bA (o := .cells #[.int .i64 P2, .int .i64 Q2] 25) BZ2.out.size BZ2.out)
            have ka0 : (z2.alloc (.cells #[.int .i64 P2, .int .i64 Q2] 25)).cell? ⟨z2.heap.size, 0, none⟩ = some (.int .i64 P2) := keepN rfl rfl
            have ka1 : (z2.alloc (.cells #[.int .i64 P2, .int .i64 Q2] 25)).cell? ⟨z2.heap.size, 1, none⟩ = some (.int .i64 Q2) := keepN rfl rfl
            clear hz2 BZ1 BZ2
            go_wp2_with fail
            refine (HPM2.out _).mono ?_
            rintro e z3 ⟨rfl, hz3⟩
            have hs3 : z2.heap.size < z3.heap.size := by have := hz3.size; simp at this; omega
            have BZ3 := Lib.hid (BA2.out.trans (hz3.mono BA2.out.size))
            replace ka0 := keepB hz3 ka0
            replace ka1 := keepB hz3 ka1
            have BA3 := Lib.hid (bA (o := .cells #[.int .i64 P2, .int .i64 Q2] 25) BZ3.out.size BZ3.out)
            replace ka0 := keepA (o := .cells #[.int .i64 P2, .int .i64 Q2] 25) ka0
            replace ka1 := keepA (o := .cells #[.int .i64 P2, .int .i64 Q2] 25) ka1
            have kb0 : (z3.alloc (.cells #[.int .i64 P2, .int .i64 Q2] 25)).cell? ⟨z3.heap.size, 0, none⟩ = some (.int .i64 P2) := keepN rfl rfl
            have kb1 : (z3.alloc (.cells #[.int .i64 P2, .int .i64 Q2] 25)).cell? ⟨z3.heap.size, 1, none⟩ = some (.int .i64 Q2) := keepN rfl rfl
            have CA3 := Lib.hid (CODE.out.below BA3.out)
            clear hz3 BA2 BZ3 HPI2 HPM2
            go_wp2_with fail
            refine (Draw.prime6 _ len0 _ CA3.out).mono ?_
            rintro e z4 ⟨n3, a3, m3, v3, rfl, hn3, ha3, hm3, hv3, hz4⟩
            have hs4 : z3.heap.size < z4.heap.size := by have := hz4.size; simp at this; omega
            have HQ1 := Lib.hid (Trm.prmI n3 a3 m3 v3 ha3 hv3)
            have HQ2 := Lib.hid (Trm.prmM n3 a3 m3 v3)
            have HQ3 := Lib.hid (Trm.impI n3 a3 m3 v3 ha3 hv3)
            have HQ4 := Lib.hid (Trm.impM n3 a3 m3 v3)
            generalize prmT n3 a3 m3 v3 = b1 at HQ1 HQ2
            generalize impT n3 a3 m3 v3 = b2 at HQ3 HQ4
            have BZ4 := Lib.hid (BA3.out.trans (hz4.mono BA3.out.size))
            replace ka0 := keepB hz4 ka0
            replace ka1 := keepB hz4 ka1
            replace kb0 := keepB hz4 kb0
            replace kb1 := keepB hz4 kb1
            have BA4 := Lib.hid (bA (o := .cells #[.int .i64 n3, .int .i64 a3] 38) BZ4.out.size BZ4.out)
            replace ka0 := keepA (o := .cells #[.int .i64 n3, .int .i64 a3] 38) ka0
            replace ka1 := keepA (o := .cells #[.int .i64 n3, .int .i64 a3] 38) ka1
            replace kb0 := keepA (o := .cells #[.int .i64 n3, .int .i64 a3] 38) kb0
            replace kb1 := keepA (o := .cells #[.int .i64 n3, .int .i64 a3] 38) kb1
            have kc0 : (z4.alloc (.cells #[.int .i64 n3, .int .i64 a3] 38)).cell? ⟨z4.heap.size, 0, none⟩ = some (.int .i64 n3) := keepN rfl rfl
            have kc1 : (z4.alloc (.cells #[.int .i64 n3, .int .i64 a3] 38)).cell? ⟨z4.heap.size, 1, none⟩ = some (.int .i64 a3) := keepN rfl rfl
            have BB4 := Lib.hid (bA (o := .cells #[.int .i64 m3, .int .i64 v3] 25) BA4.out.size BA4.out)
            replace ka0 := keepA (o := .cells #[.int .i64 m3, .int .i64 v3] 25) ka0
            replace ka1 := keepA (o := .cells #[.int .i64 m3, .int .i64 v3] 25) ka1
            replace kb0 := keepA (o := .cells #[.int .i64 m3, .int .i64 v3] 25) kb0
            replace kb1 := keepA (o := .cells #[.int .i64 m3, .int .i64 v3] 25) kb1
            replace kc0 := keepA (o := .cells #[.int .i64 m3, .int .i64 v3] 25) kc0
            replace kc1 := keepA (o := .cells #[.int .i64 m3, .int .i64 v3] 25) kc1
            have kd0 : ((z4.alloc (.cells #[.int .i64 n3, .int .i64 a3] 38)).alloc (.cells #[.int .i64 m3, .int .i64 v3] 25)).cell? ⟨z4.heap.size + 1, 0, none⟩ = some (.int .i64 m3) := keepN (by simp) rfl
            have kd1 : ((z4.alloc (.cells #[.int .i64 n3, .int .i64 a3] 38)).alloc (.cells #[.int .i64 m3, .int .i64 v3] 25)).cell? ⟨z4.heap.size + 1, 1, none⟩ = some (.int .i64 v3) := keepN (by simp) rfl
            have CA4 := Lib.hid (CODE.out.below BB4.out)
            clear hz4 BA3 BZ4 BA4 hn3 ha3 hm3 hv3 CA3
            go_wp2_with fail
            refine (Draw.holds _ len0 _ CA4.out).mono ?_
            rintro e z5 ⟨m4, v4', x4, rfl, hm4, hv4, hx4, hz5⟩
            have hs5 : z4.heap.size + 1 < z5.heap.size := by have := hz5.size; simp at this; omega
            have HH1 := Lib.hid (Trm.holdI m4 v4' x4 hv4)
            have HH2 := Lib.hid (Trm.holdM m4 v4' x4)
            generalize holdT m4 v4' x4 = b3 at HH1 HH2
            have BZ5 := Lib.hid (BB4.out.trans (hz5.mono BB4.out.size))
            replace ka0 := keepB hz5 ka0
            replace ka1 := keepB hz5 ka1
            replace kb0 := keepB hz5 kb0
            replace kb1 := keepB hz5 kb1
            replace kc0 := keepB hz5 kc0
            replace kc1 := keepB hz5 kc1
            replace kd0 := keepB hz5 kd0
            replace kd1 := keepB hz5 kd1
            have BA5 := Lib.hid (bA (o := .cells #[.int .i64 m4, .int .i64 v4'] 25) BZ5.out.size BZ5.out)
            replace ka0 := keepA (o := .cells #[.int .i64 m4, .int .i64 v4'] 25) ka0
            replace ka1 := keepA (o := .cells #[.int .i64 m4, .int .i64 v4'] 25) ka1
            replace kb0 := keepA (o := .cells #[.int .i64 m4, .int .i64 v4'] 25) kb0
            replace kb1 := keepA (o := .cells #[.int .i64 m4, .int .i64 v4'] 25) kb1
            replace kc0 := keepA (o := .cells #[.int .i64 m4, .int .i64 v4'] 25) kc0
            replace kc1 := keepA (o := .cells #[.int .i64 m4, .int .i64 v4'] 25) kc1
            replace kd0 := keepA (o := .cells #[.int .i64 m4, .int .i64 v4'] 25) kd0
            replace kd1 := keepA (o := .cells #[.int .i64 m4, .int .i64 v4'] 25) kd1
            have ke0 : (z5.alloc (.cells #[.int .i64 m4, .int .i64 v4'] 25)).cell? ⟨z5.heap.size, 0, none⟩ = some (.int .i64 m4) := keepN rfl rfl
            have ke1 : (z5.alloc (.cells #[.int .i64 m4, .int .i64 v4'] 25)).cell? ⟨z5.heap.size, 1, none⟩ = some (.int .i64 v4') := keepN rfl rfl
            have CA5 := Lib.hid (CODE.out.below BA5.out)
            clear hz5 BB4 BZ5 hm4 hv4 hx4 CA4
            go_wp2_with fail
            refine (Draw.lists _ len0 _ CA5.out).mono ?_
            rintro e z6 ⟨n5, v5, l5, rfl, hn5, hl5, hsm5, hrow5, hz6⟩
            have hs6 : z5.heap.size < z6.heap.size := by have := hz6.size; simp at this; omega
            have BZ6 := Lib.hid (BA5.out.trans (hz6.mono BA5.out.size))
            replace ka0 := keepB hz6 ka0
            replace ka1 := keepB hz6 ka1
            replace kb0 := keepB hz6 kb0
            replace kb1 := keepB hz6 kb1
            replace kc0 := keepB hz6 kc0
            replace kc1 := keepB hz6 kc1
            replace kd0 := keepB hz6 kd0
            replace kd1 := keepB hz6 kd1
            replace ke0 := keepB hz6 ke0
            replace ke1 := keepB hz6 ke1
            have T5 := hrow5.terms (by omega) hsm5
            obtain ⟨ad5, cp5, rfl⟩ : ∃ ad5 cp5, v5 = .slice ad5 l5.length cp5 := by obtain ⟨x, y, h, _⟩ := T5; exact ⟨x, y, h⟩
            have HT5 := Lib.hid T5
            have HTI := Lib.hid (Tot.I n5 l5 ad5 cp5 z6 T5)
            clear hz6 BA5 hn5 hl5 hsm5 hrow5 T5 CA5
            go_wp2_with fail
            refine (HTI.out).mono ?_
            rintro e z7 ⟨rfl, hz7⟩
            have hs7 : z6.heap.size ≤ z7.heap.size := hz7.size
            have HT7 := Lib.hid (HT5.out.below hz7)
            have BZ7 := Lib.hid (BZ6.out.trans (hz7.mono BZ6.out.size))
            replace ka0 := keepB hz7 ka0
            replace ka1 := keepB hz7 ka1
            replace kb0 := keepB hz7 kb0
            replace kb1 := keepB hz7 kb1
            replace kc0 := keepB hz7 kc0
            replace kc1 := keepB hz7 kc1
            replace kd0 := keepB hz7 kd0
            replace kd1 := keepB hz7 kd1
            replace ke0 := keepB hz7 ke0
            replace ke1 := keepB hz7 ke1
            obtain ⟨r1, hr1⟩ : ∃ r1, (totT n5 l5).1 = r1 := ⟨_, rfl⟩
            obtain ⟨r2, hr2⟩ : ∃ r2, (totT n5 l5).2.1 = r2 := ⟨_, rfl⟩
            obtain ⟨r3, hr3⟩ : ∃ r3, (totT n5 l5).2.2 = r3 := ⟨_, rfl⟩
            rw [hr1, hr2, hr3]
            have BA7 := Lib.hid (bA (o := .cells #[.int .i64 r1, .int .i64 r2] 38) BZ7.out.size BZ7.out)
            replace ka0 := keepA (o := .cells #[.int .i64 r1, .int .i64 r2] 38) ka0
            replace ka1 := keepA (o := .cells #[.int .i64 r1, .int .i64 r2] 38) ka1
            replace kb0 := keepA (o := .cells #[.int .i64 r1, .int .i64 r2] 38) kb0
            replace kb1 := keepA (o := .cells #[.int .i64 r1, .int .i64 r2] 38) kb1
            replace kc0 := keepA (o := .cells #[.int .i64 r1, .int .i64 r2] 38) kc0
            replace kc1 := keepA (o := .cells #[.int .i64 r1, .int .i64 r2] 38) kc1
            replace kd0 := keepA (o := .cells #[.int .i64 r1, .int .i64 r2] 38) kd0
            replace kd1 := keepA (o := .cells #[.int .i64 r1, .int .i64 r2] 38) kd1
            replace ke0 := keepA (o := .cells #[.int .i64 r1, .int .i64 r2] 38) ke0
            replace ke1 := keepA (o := .cells #[.int .i64 r1, .int .i64 r2] 38) ke1
            have kf0 : (z7.alloc (.cells #[.int .i64 r1, .int .i64 r2] 38)).cell? ⟨z7.heap.size, 0, none⟩ = some (.int .i64 r1) := keepN rfl rfl
            have kf1 : (z7.alloc (.cells #[.int .i64 r1, .int .i64 r2] 38)).cell? ⟨z7.heap.size, 1, none⟩ = some (.int .i64 r2) := keepN rfl rfl
            have HTM := Lib.hid (Tot.M n5 l5 ad5 cp5 _ (HT7.out.below (bA (o := .cells #[.int .i64 r1, .int .i64 r2] 38) (Nat.le_refl _) (Below.refl z7.heap.size z7))))
            rw [hr1, hr2, hr3] at HTM
            clear hz7 BZ6 BZ7 HTI hr1 hr2 hr3
            go_wp2_with fail
            refine (HTM.out).mono ?_
            rintro e z8 ⟨rfl, hz8⟩
            have hs8 : z7.heap.size < z8.heap.size := by have := hz8.size; simp at this; omega
            have BZ8 := Lib.hid (BA7.out.trans (hz8.mono BA7.out.size))
            replace ka0 := keepB hz8 ka0
            replace ka1 := keepB hz8 ka1
            replace kb0 := keepB hz8 kb0
            replace kb1 := keepB hz8 kb1
            replace kc0 := keepB hz8 kc0
            replace kc1 := keepB hz8 kc1
            replace kd0 := keepB hz8 kd0
            replace kd1 := keepB hz8 kd1
            replace ke0 := keepB hz8 ke0
            replace ke1 := keepB hz8 ke1
            replace kf0 := keepB hz8 kf0
            replace kf1 := keepB hz8 kf1
            have BA8 := Lib.hid (bA (o := .cells #[.int .i64 r1, .int .i64 r2] 38) BZ8.out.size BZ8.out)
            replace ka0 := keepA (o := .cells #[.int .i64 r1, .int .i64 r2] 38) ka0
            replace ka1 := keepA (o := .cells #[.int .i64 r1, .int .i64 r2] 38) ka1
            replace kb0 := keepA (o := .cells #[.int .i64 r1, .int .i64 r2] 38) kb0
            replace kb1 := keepA (o := .cells #[.int .i64 r1, .int .i64 r2] 38) kb1
            replace kc0 := keepA (o := .cells #[.int .i64 r1, .int .i64 r2] 38) kc0
            replace kc1 := keepA (o := .cells #[.int .i64 r1, .int .i64 r2] 38) kc1
            replace kd0 := keepA (o := .cells #[.int .i64 r1, .int .i64 r2] 38) kd0
            replace kd1 := keepA (o := .cells #[.int .i64 r1, .int .i64 r2] 38) kd1
            replace ke0 := keepA (o := .cells #[.int .i64 r1, .int .i64 r2] 38) ke0
            replace ke1 := keepA (o := .cells #[.int .i64 r1, .int .i64 r2] 38) ke1
            replace kf0 := keepA (o := .cells #[.int .i64 r1, .int .i64 r2] 38) kf0
            replace kf1 := keepA (o := .cells #[.int .i64 r1, .int .i64 r2] 38) kf1
            have kg0 : (z8.alloc (.cells #[.int .i64 r1, .int .i64 r2] 38)).cell? ⟨z8.heap.size, 0, none⟩ = some (.int .i64 r1) := keepN rfl rfl
            have kg1 : (z8.alloc (.cells #[.int .i64 r1, .int .i64 r2] 38)).cell? ⟨z8.heap.size, 1, none⟩ = some (.int .i64 r2) := keepN rfl rfl
            clear hz8 BA7 BZ8 HTM HT5 HT7
            go_wp2_with fail
            go_region_held3 (fun w' => w'.cell? ⟨z2.heap.size, 0, none⟩ = some (.int .i64 P2) ∧ w'.cell? ⟨z2.heap.size, 1, none⟩ = some (.int .i64 Q2) ∧ w'.cell? ⟨z3.heap.size, 0, none⟩ = some (.int .i64 P2) ∧ w'.cell? ⟨z3.heap.size, 1, none⟩ = some (.int .i64 Q2) ∧ w'.cell? ⟨z4.heap.size, 0, none⟩ = some (.int .i64 n3) ∧ w'.cell? ⟨z4.heap.size, 1, none⟩ = some (.int .i64 a3) ∧ w'.cell? ⟨z4.heap.size + 1, 0, none⟩ = some (.int .i64 m3) ∧ w'.cell? ⟨z4.heap.size + 1, 1, none⟩ = some (.int .i64 v3) ∧ w'.cell? ⟨z5.heap.size, 0, none⟩ = some (.int .i64 m4) ∧ w'.cell? ⟨z5.heap.size, 1, none⟩ = some (.int .i64 v4') ∧ w'.cell? ⟨z7.heap.size, 0, none⟩ = some (.int .i64 r1) ∧ w'.cell? ⟨z7.heap.size, 1, none⟩ = some (.int .i64 r2) ∧ w'.cell? ⟨z8.heap.size, 0, none⟩ = some (.int .i64 r1) ∧ w'.cell? ⟨z8.heap.size, 1, none⟩ = some (.int .i64 r2))
              ((first | (go_split_ands; (try dsimp only); (refine ⟨?_, ?_, ?_, ?_, ?_, ?_, ?_, ?_, ?_, ?_, ?_, ?_, ?_, ?_⟩ <;> (repeat (first | with_reducible assumption | ((with_reducible refine keepU ?_); (with_reducible assumption)) | (with_reducible refine keepD ?_) | (with_reducible refine keepB hbF ?_) | (with_reducible refine keepB hbE ?_) | (with_reducible refine keepB hbD ?_) | (with_reducible refine keepB hbC ?_) | (with_reducible refine keepB hbB ?_) | (with_reducible refine keepB hbA ?_)))); done) | go_keep))
              (first | (go_at_call 28; refine (HQ1.out _).mono ?_; rintro e whbA ⟨rfl, hbA⟩) | (go_at_call 27; refine (HQ2.out _).mono ?_; rintro e whbB ⟨rfl, hbB⟩) | (go_at_call 26; refine (HQ3.out _).mono ?_; rintro e whbC ⟨rfl, hbC⟩) | (go_at_call 24; refine (HQ4.out _).mono ?_; rintro e whbD ⟨rfl, hbD⟩) | (go_at_call 18; refine (HH1.out _).mono ?_; rintro e whbE ⟨rfl, hbE⟩) | (go_at_call 17; refine (HH2.out _).mono ?_; rintro e whbF ⟨rfl, hbF⟩))
            go_wp2
            go_ret
            exact ⟨rfl, bstep (bstep (bstep (bstep (bstep (bstep (bD BA8.out) hbA) hbB) hbC) hbD) hbE) hbF⟩
  · have HB := Lib.hid (Big.yes a0 len0 cap0 hlen (by
      rcases w0 with ⟨_, rfl, _⟩ | ⟨x, _, h1, h2, _⟩
      · decide
      · unfold maxLen at h2; omega))
    clear w0 hlen
    go_enter Try.func13, Try.ntmps13
    go_wp2_with fail
    refine (HB.out _).mono ?_
    rintro e w1 ⟨rfl, rfl⟩
    go_wp2
    go_ret
    exact ⟨rfl, Below.refl _ _⟩

set_option maxRecDepth 100000 in
theorem lifted (os : Os) (started : os.Started) (H : Type) (enc : TypeId × Value → H) :
    ReturnsInHanded {} Try.checked os 13 .any (Rows.fnPrimesSpec.pre6 enc Try.prog Try.f13 Rows.fnPrimesRow.domain false) (Rows.fnPrimesSpec.post enc Try.prog Try.f13 false true false false) := by
  refine returnsInHanded_of_change (C := Try.checked) own started (by kernel_rfl) Try.func13
    (ChangeSpec.witness6 (enc := enc) (C := Try.checked) false ⟨#[], #[.slice none 0 0], []⟩ 8 (by kernel_rfl) (by kernel_rfl) (by kernel_rfl) (by kernel_rfl)) ?_
  intro W base args ds gs before hval0 hW hcnd _
  have hval : ∀ (j : Nat) t v, Try.f13.params[j]? = some t → args[j]? = some v → Value.okWide Try.prog W .any base t v := hval0
  have hW' := hW
  obtain ⟨p, q, hA0, hV, rfl, hfz, hnd⟩ := hW
  have hA : DataW.TrodAll enc Try.prog W 0 (fun _ => true) true Try.f13.params.toList args.toList ds p := hA0
  rw [Try.params13] at hA hval
  obtain ⟨v0, vs0, d0, ds0, p0, q0, hargs, rfl, rfl, h0, r0⟩ := trodAll_cons hA
  obtain ⟨rfl, rfl, rfl⟩ := trodAll_nil r0
  obtain rfl : args = #[v0] := by cases args; simp_all
  obtain ⟨rfl, rfl⟩ := trodVars_none hV
  obtain ⟨a0, len0, cap0, rfl⟩ := okWide_slice Try.underlying54 (hval 0 54 v0 rfl rfl)
  have k0 := h0
  have lt0 : ∀ x ∈ p0, x.block < W.heap.size := by obtain ⟨m, hm⟩ := k0; exact DataW.trod_lt m _ _ _ hm
  obtain ⟨z0, w0⟩ : ∃ zs, IsRow .u8 W a0 len0 cap0 zs := by
    obtain ⟨fuel, hf⟩ := h0
    rcases open_ints Try.underlying54 Try.underlying5 (by kernel_rfl) hf with ⟨hcs, _⟩ | ⟨x, l, c, zs, hcs, _, hl, hm, hz, _, hcell, hwz⟩
    · simp [Value.cells] at hcs
      obtain ⟨rfl, rfl, rfl⟩ := hcs
      exact ⟨[], .inl ⟨rfl, rfl, rfl, rfl⟩⟩
    · simp [Value.cells] at hcs
      obtain ⟨rfl, rfl, rfl⟩ := hcs
      exact ⟨zs, .inr ⟨_, rfl, hl, hm, by simpa using hz, hcell, hwz⟩⟩
  clear hA0 hval0
  simp only [List.append_nil] at hW'
  refine (walk a0 len0 cap0 z0 W w0).mono fun e W' ⟨he, bel⟩ => ?_
  subst he
  exact ⟨_, rfl, _, _, _, [], _, [], hW', trodAll_mk1 (shut_bool Try.underlying4 _), (trodAll_cons_mk (Below.trod laidOut (by kernel_rfl) (of_decide_eq_true (by kernel_rfl)) k0 bel lt0) trodAll_mk0), rfl, bel.frame _, fun h => by cases h⟩

theorem proved : Rows.FnPrimesSaid :=
  OpenClaim.holds_of_wide 13 Try.f13 rfl rfl rfl rfl rfl rfl rfl ⟨rfl, rfl, rfl, rfl, rfl⟩ rfl rfl rfl rfl rfl (by kernel_rfl) Try.func13 (by kernel_rfl)
    (of_decide_eq_true (by kernel_rfl)) (by unfold Func.isWrapper; first | (rw [if_pos (by decide +kernel)]; kernel_rfl) | (rw [if_neg (by decide +kernel)]; exact ⟨rfl, rfl⟩))
    (fun os started H enc _ => lifted os started H enc)
end Go.Proofs.Ytkamopckpmiioaa.fnPrimes
