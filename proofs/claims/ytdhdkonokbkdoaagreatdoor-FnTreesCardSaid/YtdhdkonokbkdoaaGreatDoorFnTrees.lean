/-
  For every slice of bytes, the law of trees returns true: best trees compute the table with the least depth, no tree asks less, in depth and in sum, averages are bounded by depths, and the program answers as the model does. No condition of its own: the law itself asks nothing of slices longer than 1048576 bytes.
  A TIED CARD: what its row lists of the library's variables is tied to the program's text by the given tie. It speaks of a pruned copy of the project (PRUNED.txt of its seat): code of other packages, commands or tests is not spoken of.
-/
import Derived.Test.YtdhdkonokbkdoaaGreatDoorCards
import Derived.Test.YtdhdkonokbkdoaaGreatDoorTie
import Derived.WalkKit
import Derived.ProofKit
import Derived.OpenShut
import Derived.ShutString
import Derived.ChangeOld
import Derived.Below
import Derived.Stop.LaidErr
import Derived.LaidMore
import Derived.MakeChecks
import Derived.Deep.DeepHandedRow
import Derived.Deep.DeepWitnessRowRef
import Derived.Lib.LaidTab
import Derived.Lib.SmallJoins
import Derived.Test.YtdhdkonokbkdoaaGreatDoorBtT
import Derived.Test.YtdhdkonokbkdoaaGreatDoorOptA
import Derived.Test.YtdhdkonokbkdoaaGreatDoorTreD
import Derived.Test.YtdhdkonokbkdoaaGreatDoorDrawB
import Derived.Deep.RegionHeld3
import Derived.Deep.DeepCutAuto
import Derived.Deep.DrawnRows
import Derived.Deep.QuietTactic
import Derived.BigQuiet
namespace Go.Proofs.YtdhdkonokbkdoaaGreatDoor.fnTrees
open Go.ChangeShapes Go.WideShapes Go.ChangeAt Go.RowKit
open Go.ChangeMaps (open_string shut_string)
open Go.Joins
set_option linter.unusedVariables false

theorem own : ownKnob Tryz.prog.godebug = none := by kernel_rfl
theorem laidOut : laidOutB Tryz.prog = true := by kernel_rfl

open Plain
attribute [local go_sem ↓] Go.wp_at_zero Go.wp_at_succ

/-- A slice of integers that came in: it is nil, or it leads to a row of 'cap' cells, the numbers 'zs', each fitting its kind. -/
def IsRow (k : IntKind) (w : World) (a : Option Addr) (len cap : Nat) (zs : List Int) : Prop :=
  (a = none ∧ len = 0 ∧ cap = 0 ∧ zs = []) ∨
  ∃ x, a = some x ∧ len ≤ cap ∧ cap ≤ maxLen ∧ zs.length = cap ∧ (∀ i, i < zs.length → w.cell? (x.add i) = some (.int k (zs.getD i 0))) ∧ ∀ n ∈ zs, (Lit.int k n).wf = true

theorem codeIn {w : World} {a : Option Addr} {len cap : Nat} {zs : List Int} (h : IsRow .u8 w a len cap zs) (hl : (len : Int) ≤ 1048576) : CodeIn w (.slice a len cap) len := by
  refine ⟨a, cap, rfl, by omega, fun h0 => ?_⟩
  rcases h with ⟨_, rfl, _⟩ | ⟨x, rfl, hlc, hm, hz, hcell, hwf⟩
  · omega
  · obtain ⟨ab, off, spot⟩ := x
    have hc := hcell 0 (by omega)
    have hspot : spot = none := by simpa [Addr.add] using World.cell?_spot hc
    subst hspot
    have hlt := World.block_lt_of_cell? w _ hc
    refine ⟨ab, off, rfl, by simpa [Addr.add] using hlt, fun j hj => ?_⟩
    have hj' : j < zs.length := by omega
    have hb := hwf (zs.getD j 0) (by simp [List.getD, hj'])
    have e1 : IntKind.u8.min = 0 := rfl
    have e2 : IntKind.u8.max = 255 := rfl
    simp only [Lit.wf, Bool.and_eq_true, decide_eq_true_eq, e1, e2] at hb
    have hadd : (⟨ab, off, none⟩ : Addr).add j = ⟨ab, off + j, none⟩ := by unfold Addr.add; split <;> simp_all
    exact ⟨zs.getD j 0, hb.1, hb.2, hadd ▸ hcell j hj'⟩

theorem same_string (s : ByteArray) : (s.toList == s.toList) = true := by simp
theorem shl_five : ∀ r < 5, ∀ i < 5, IntKind.i64.wrap (((r : Nat) : Int) * 2 ^ i) = ((r * 2 ^ i : Nat) : Int) ∧ wrap64 (((r : Nat) : Int) * 2 ^ i) = ((r * 2 ^ i : Nat) : Int) := by decide +kernel

set_option maxRecDepth 100000 in
set_option maxHeartbeats 8000000 in
theorem walk (a0 : Option Addr) (len0 cap0 : Nat) (z0 : List Int) (W : World) (w0 : IsRow .u8 W a0 len0 cap0 z0) (hL : laidMetH Tryz.prog Rows.fnTreesRow.laid W) :
    Calls Tryz.prog 3 #[.slice a0 len0 cap0] W fun e w' => e = .returned (.bool true) ∧ Below W.heap.size W w' := by
  rw [MakeChecks.laidMetH_plain _ _ _ (by kernel_rfl)] at hL
  have POW := Lib.hid (powTab hL.tail.tail)
  clear hL
  by_cases hlen : (len0 : Int) ≤ 1048576
  · have CODE := Lib.hid (codeIn w0 hlen)
    have HB := Lib.hid (Draw.big a0 len0 cap0 (by omega))
    rw [show decide (1048576 < (len0 : Int)) = false from decide_eq_false (by omega)] at HB
    clear w0 hlen
    go_enter Tryz.func3, Tryz.ntmps3
    go_wp2_with fail
    refine (HB.out _).mono ?_
    rintro e w1 ⟨rfl, rfl⟩
    go_wp2_with fail
    refine (Draw.best _ len0 _ CODE.out).mono ?_
    rintro e w1 ⟨n, a, rfl, hn, ha, hb1⟩
    have HI0 := Lib.hid (fun w hp => Bst.impl n a ha w hp)
    have HM0 := Lib.hid (Bst.model n a)
    obtain ⟨s, r, hst, hsz⟩ := btV_str n a
    rw [hst] at HI0 HM0
    have HI := Lib.hid HI0.out
    have HM := Lib.hid HM0.out
    have HBA := Lib.hid (fun hr => best_at hst hr)
    have HLI := Lib.hid (Ld.impl n a ha)
    have HLM := Lib.hid (Ld.model n a)
    have HAI := Lib.hid (La.impl n a ha)
    have HAM := Lib.hid (La.model n a)
    have HEI := Lib.hid (Eva.impl n a ha)
    generalize evaB n a = ev at *
    obtain ⟨L0, hL0⟩ : ∃ L0, ldT n a = L0 := ⟨_, rfl⟩
    obtain ⟨K0, hK0⟩ : ∃ K0, laT n a = K0 := ⟨_, rfl⟩
    rw [hL0] at HLI HLM
    rw [hK0] at HAI HAM
    have HL0 := Lib.hid hL0
    have HK0 := Lib.hid hK0
    have B1 := Lib.hid (bA hb1.size hb1 (o := .cells #[.int .i64 n, .int .i64 a] 25))
    have f0 : (w1.alloc (.cells #[.int .i64 n, .int .i64 a] 25)).cell? ⟨w1.heap.size, 0, none⟩ = some (.int .i64 n) := keepN rfl rfl
    have f1 : (w1.alloc (.cells #[.int .i64 n, .int .i64 a] 25)).cell? ⟨w1.heap.size, 1, none⟩ = some (.int .i64 a) := keepN rfl rfl
    have hs1 := hb1.size
    have HP1 := Lib.hid (POW.out.stays B1.out (Nat.le_refl _))
    clear hn ha hb1 HI0 HM0 hst hL0 hK0
    go_wp2_with fail
    refine (HI.out _ HP1.out).mono ?_
    rintro e w2 ⟨rfl, hb2⟩
    have B2 := Lib.hid (B1.out.trans (hb2.mono B1.out.size))
    replace f0 := keepB hb2 f0
    replace f1 := keepB hb2 f1
    have hs2 : w1.heap.size < w2.heap.size := by have := hb2.size; simp at this; omega
    clear hb2 B1 HP1 HI
    go_wp2_with fail
    refine (HM.out _).mono ?_
    rintro e w3 ⟨rfl, hb3⟩
    have B3 := Lib.hid (B2.out.trans (hb3.mono B2.out.size))
    replace f0 := keepB hb3 f0
    replace f1 := keepB hb3 f1
    have hs3 : w1.heap.size < w3.heap.size := by have := hb3.size; omega
    clear hb3 B2 HM
    go_wp2_with fail
    refine (HLI.out _).mono ?_
    rintro e w4 ⟨rfl, hb4⟩
    have B4 := Lib.hid (B3.out.trans (hb4.mono B3.out.size))
    replace f0 := keepB hb4 f0
    replace f1 := keepB hb4 f1
    have hs4 : w1.heap.size < w4.heap.size := by have := hb4.size; omega
    clear hb4 B3
    go_wp2_with fail
    refine (HAI.out _).mono ?_
    rintro e w5 ⟨rfl, hb5⟩
    have B5 := Lib.hid (B4.out.trans (hb5.mono B4.out.size))
    replace f0 := keepB hb5 f0
    replace f1 := keepB hb5 f1
    have hs5 : w1.heap.size < w5.heap.size := by have := hb5.size; omega
    clear hb5 B4
    go_wp2_with fail
    refine (HLM.out _).mono ?_
    rintro e w6 ⟨rfl, hb6⟩
    have B6 := Lib.hid (B5.out.trans (hb6.mono B5.out.size))
    replace f0 := keepB hb6 f0
    replace f1 := keepB hb6 f1
    have hs6 : w1.heap.size < w6.heap.size := by have := hb6.size; omega
    clear hb6 B5
    go_wp2_with fail
    refine (HAM.out _).mono ?_
    rintro e w7 ⟨rfl, hb7⟩
    have B7 := Lib.hid (B6.out.trans (hb7.mono B6.out.size))
    replace f0 := keepB hb7 f0
    replace f1 := keepB hb7 f1
    have hs7 : w1.heap.size < w7.heap.size := by have := hb7.size; omega
    clear hb7 B6 HLI HLM HAI HAM
    go_upto_if 61 with fail
    go_cut [2] (fun s wx => Below W.heap.size W wx)
    case first =>
      as_aux_lemma =>
      cases r with
      | false =>
        go_wp2_with fail
        go_meet
        exact B7.out
      | true =>
        obtain ⟨N, A, L, K, G, S2, rfl, rfl, hNz, hi, htt, hl, hd, hk, hg, hLz, hev, sh1, sh2, g1, g2⟩ := HBA.out rfl
        rw [HL0.out] at hl
        rw [HK0.out] at hk
        subst hl hk
        have g1w : decide (IntKind.i64.wrap ((L : Int) * 2 ^ N) < (K : Int)) = false := by rw [sh1]; exact g1
        have HT := Lib.hid (Tot.impl s (N : Int))
        rw [htt] at HT
        have HIS := Lib.hid (IsD.impl s)
        rw [hi] at HIS
        have HDP := Lib.hid (Dep.impl s)
        rw [hd] at HDP
        have HAV := Lib.hid (Avg.impl s (N : Int))
        rw [hg] at HAV
        subst hev
        have hee : (((L : Int) == (N : Int)) != ((L : Int) == (N : Int))) = false := by simp
        clear HL0 HK0 HBA hi htt hd hg sh2 CODE POW HB hs1 hs2 hs3 hs4 hs5 hs6 hsz
        go_wp2_with fail
        refine (HT.out _).mono ?_
        rintro e x1 ⟨rfl, hx1⟩
        dsimp only
        have D1 := Lib.hid (bA (o := .cells #[.int .i64 (N : Int), .int .i64 (A : Int)] 25) (B7.out.trans (hx1.mono B7.out.size)).size (B7.out.trans (hx1.mono B7.out.size)))
        replace f0 := keepA (o := .cells #[.int .i64 (N : Int), .int .i64 (A : Int)] 25) (keepB hx1 f0)
        replace f1 := keepA (o := .cells #[.int .i64 (N : Int), .int .i64 (A : Int)] 25) (keepB hx1 f1)
        have k0 : (x1.alloc (.cells #[.int .i64 (N : Int), .int .i64 (A : Int)] 25)).cell? ⟨x1.heap.size, 0, none⟩ = some (.int .i64 (N : Int)) := keepN rfl rfl
        have k1 : (x1.alloc (.cells #[.int .i64 (N : Int), .int .i64 (A : Int)] 25)).cell? ⟨x1.heap.size, 1, none⟩ = some (.int .i64 (A : Int)) := keepN rfl rfl
        have hy1 : w1.heap.size < x1.heap.size := by have := hx1.size; omega
        have hy1' : (x1.alloc (.cells #[.int .i64 (N : Int), .int .i64 (A : Int)] 25)).heap.size = x1.heap.size + 1 := by simp
        have hyW := D1.out.size
        clear hx1 HT B7 hs7
        go_wp2_with fail
        generalize x1.alloc (.cells #[.int .i64 (N : Int), .int .i64 (A : Int)] 25) = X1 at *
        go_region_held3 (fun w' => w'.cell? ⟨w1.heap.size, 0, none⟩ = some (.int .i64 (N : Int)) ∧ w'.cell? ⟨w1.heap.size, 1, none⟩ = some (.int .i64 (A : Int)) ∧ w'.cell? ⟨x1.heap.size, 0, none⟩ = some (.int .i64 (N : Int)) ∧ w'.cell? ⟨x1.heap.size, 1, none⟩ = some (.int .i64 (A : Int))) ((first | (go_split_ands; (try dsimp only); (refine ⟨?_, ?_, ?_, ?_⟩ <;> (repeat (first | with_reducible assumption | ((with_reducible refine keepU ?_); (with_reducible assumption)) | (with_reducible refine keepD ?_) | ((with_reducible refine keepN ?_ ?_); (focus (simp; done)); (focus rfl)) | (with_reducible refine keepA ?_) | (with_reducible refine keepB hr1 ?_) | (with_reducible refine keepB hr2 ?_) | (with_reducible refine keepB hr3 ?_) | (with_reducible refine keepB hr4 ?_)))); done) | go_keep))
          (first
            | (with_reducible refine (HIS.out _).mono ?_; rintro e r1 ⟨rfl, hr1⟩; obtain ⟨hc21, hf21⟩ := bcell hr1; have hs21 := hr1.size; try simp only [World.size_drew] at hs21)
            | (with_reducible refine (HDP.out _).mono ?_; rintro e r2 ⟨rfl, hr2⟩; obtain ⟨hc22, hf22⟩ := bcell hr2; have hs22 := hr2.size; try simp only [World.size_drew] at hs22)
            | (with_reducible refine (HAV.out _).mono ?_; rintro e r3 ⟨rfl, hr3⟩; obtain ⟨hc23, hf23⟩ := bcell hr3; have hs23 := hr3.size; try simp only [World.size_drew] at hs23)
            | (with_reducible refine (HEI.out _).mono ?_; rintro e r4 ⟨rfl, hr4⟩; obtain ⟨hc24, hf24⟩ := bcell hr4; have hs24 := hr4.size; try simp only [World.size_drew] at hs24))
        all_goals
          go_wp2_with fail
          go_meet
          exact by (repeat (first | (with_reducible exact D1.out) | (with_reducible refine bD ?_) | ((with_reducible refine bB hr4 ?_ ?_); (focus (first | omega | (simp; done) | (simp; omega)))) | ((with_reducible refine bB hr3 ?_ ?_); (focus (first | omega | (simp; done) | (simp; omega)))) | ((with_reducible refine bB hr2 ?_ ?_); (focus (first | omega | (simp; done) | (simp; omega)))) | ((with_reducible refine bB hr1 ?_ ?_); (focus (first | omega | (simp; done) | (simp; omega)))) | ((with_reducible refine bA ?_ ?_); (focus (first | omega | (simp; done) | (simp; omega)))) | ((with_reducible refine bS ?_ ?_); (focus (dsimp only; omega)))))
    case rest =>
      have B8 := Lib.hid hcut
      clear hcut f0 f1 HBA HEI HL0 HK0 B7
      go_wp2_with fail
      refine (Draw.tot _ len0 _ (CODE.out.below B8.out)).mono ?_
      rintro e y1 ⟨d, m, rfl, _, hm, hd1⟩
      have HTI := Lib.hid (Tot.impl d m)
      have HTM := Lib.hid (Tot.model d m)
      have HTL := Lib.hid (tree_at (s := d) (m := m))
      have HDD := Lib.hid (Dep.impl d)
      have HVV := Lib.hid (Avg.impl d m)
      have C1 := Lib.hid (bB hd1 B8.out.size B8.out)
      obtain ⟨c0, c1, ok, htd⟩ : ∃ c0 c1 ok, totD d m = (c0, c1, ok) := ⟨_, _, _, rfl⟩
      rw [htd] at HTI HTM HTL
      have HC64 : Hid (ok = true → m ≤ 4 → -9223372036854775808 ≤ c1 ∧ c1 ≤ 9223372036854775807) := Lib.hid (fun h h4 => tot_word htd h h4)
      clear hm hd1 B8 htd
      go_wp2_with fail
      refine (HTI.out _).mono ?_
      rintro e y2 ⟨rfl, hd2⟩
      dsimp only
      have C2 := Lib.hid (bA (o := .cells #[.int .i64 c0, .int .i64 c1] 25) (C1.out.trans (hd2.mono C1.out.size)).size (C1.out.trans (hd2.mono C1.out.size)))
      have k0 : (y2.alloc (.cells #[.int .i64 c0, .int .i64 c1] 25)).cell? ⟨y2.heap.size, 0, none⟩ = some (.int .i64 c0) := keepN rfl rfl
      have k1 : (y2.alloc (.cells #[.int .i64 c0, .int .i64 c1] 25)).cell? ⟨y2.heap.size, 1, none⟩ = some (.int .i64 c1) := keepN rfl rfl
      clear hd2 C1 HTI
      go_wp2_with fail
      refine (HTM.out _).mono ?_
      rintro e y3 ⟨rfl, hd3⟩
      dsimp only
      have C3 := Lib.hid (bA (o := .cells #[.int .i64 c0, .int .i64 c1] 25) (C2.out.trans (hd3.mono C2.out.size)).size (C2.out.trans (hd3.mono C2.out.size)))
      replace k0 := keepA (o := .cells #[.int .i64 c0, .int .i64 c1] 25) (keepB hd3 k0)
      replace k1 := keepA (o := .cells #[.int .i64 c0, .int .i64 c1] 25) (keepB hd3 k1)
      have k2 : (y3.alloc (.cells #[.int .i64 c0, .int .i64 c1] 25)).cell? ⟨y3.heap.size, 0, none⟩ = some (.int .i64 c0) := keepN rfl rfl
      have k3 : (y3.alloc (.cells #[.int .i64 c0, .int .i64 c1] 25)).cell? ⟨y3.heap.size, 1, none⟩ = some (.int .i64 c1) := keepN rfl rfl
      have hz3 : y2.heap.size < y3.heap.size := by have := hd3.size; simp at this; omega
      have hz3' : (y3.alloc (.cells #[.int .i64 c0, .int .i64 c1] 25)).heap.size = y3.heap.size + 1 := by simp
      clear hd3 C2 HTM
      go_upto_region 19 with fail
      generalize y3.alloc (.cells #[.int .i64 c0, .int .i64 c1] 25) = Y3 at *
      go_cut [156] (fun s wx => s = .bool false ∧ Below W.heap.size W wx)
      case first =>
        as_aux_lemma =>
        cases ok with
        | false =>
          go_wp2_with fail
          go_meet
          exact ⟨rfl, C3.out⟩
        | true =>
          by_cases hm4 : m ≤ 4
          · obtain ⟨M, Wd, L, K, D, G, rfl, hc0, hc1, hl, hdd, hk, hg, d1, d2, g1, g2⟩ := HTL.out rfl hm4
            try dsimp only at hc0 hc1
            subst hc0 hc1
            have HLI := Lib.hid (Ld.impl (M : Int) (Wd : Int) (HC64.out rfl hm4))
            rw [hl] at HLI
            have HAI := Lib.hid (La.impl (M : Int) (Wd : Int) (HC64.out rfl hm4))
            rw [hk] at HAI
            rw [hdd] at HDD
            rw [hg] at HVV
            clear HTL HC64 hl hdd hk hg
            go_wp2_with fail
            refine (HLI.out _).mono ?_
            rintro e y4 ⟨rfl, hd4⟩
            have D4 := Lib.hid (bB hd4 C3.out.size C3.out)
            replace k2 := keepB hd4 k2
            replace k3 := keepB hd4 k3
            have hz4 : y3.heap.size < y4.heap.size := by have := hd4.size; omega
            clear hd4
            go_wp2_with fail
            refine (HDD.out _).mono ?_
            rintro e y5 ⟨rfl, hd5⟩
            have D5 := Lib.hid (bB hd5 D4.out.size D4.out)
            replace k2 := keepB hd5 k2
            replace k3 := keepB hd5 k3
            have hz5 : y3.heap.size < y5.heap.size := by have := hd5.size; omega
            clear hd5
            go_wp2_with fail
            refine (HAI.out _).mono ?_
            rintro e y6 ⟨rfl, hd6⟩
            have D6 := Lib.hid (bB hd6 D5.out.size D5.out)
            clear hd6
            go_wp2_with fail
            refine (HVV.out _).mono ?_
            rintro e y7 ⟨rfl, hd7⟩
            have D7 := Lib.hid (bB hd7 D6.out.size D6.out)
            clear hd7
            go_wp2_with fail
            go_meet
            exact ⟨by first | rfl | (rw [d1, d2]; rfl), D7.out⟩
          · have hm4' : decide (m ≤ 4) = false := decide_eq_false hm4
            have hm5 : 4 < m := by omega
            go_wp2_with fail
            go_meet
            exact ⟨by first | rfl | (rw [hm4']; rfl), C3.out⟩
      case rest =>
        as_aux_lemma =>
        obtain ⟨rfl, hbe⟩ := hcut
        have E0 := Lib.hid hbe
        clear hbe k0 k1 k2 k3 HTL HDD HVV HC64 C3
        go_wp2_with fail
        refine (Draw.qu _ len0 _ (CODE.out.below E0.out)).mono ?_
        rintro e u1 ⟨q, x, rfl, _, hx, he1⟩
        have E1 := Lib.hid (bB he1 E0.out.size E0.out)
        have HQI := Lib.hid (Qu.impl q x)
        have HQM := Lib.hid (Qu.model q x)
        have HQI2 := Lib.hid (IsD.impl q)
        have HQM2 := Lib.hid (IsD.model q)
        have HDI := Lib.hid (Dep.impl q)
        have HDM := Lib.hid (Dep.model q)
        have hqd := qu_dep q x
        generalize quD q x = Q at *
        generalize isD q = iq at *
        generalize depD q = dq at *
        clear hx he1 E0
        go_wp2_with fail
        refine (Draw.avg _ len0 _ (CODE.out.below E1.out)).mono ?_
        rintro e u2 ⟨v, o, rfl, _, ho, he2⟩
        have E2 := Lib.hid (bB he2 E1.out.size E1.out)
        have HVI := Lib.hid (Avg.impl v o)
        have HVM := Lib.hid (Avg.model v o)
        generalize avgD v o = va at *
        clear ho he2 E1
        go_wp2_with fail
        refine (HQI.out _).mono ?_
        rintro e u3 ⟨rfl, he3⟩
        have E3 := Lib.hid (bB he3 E2.out.size E2.out)
        clear he3 E2
        go_wp2_with fail
        refine (HQM.out _).mono ?_
        rintro e u4 ⟨rfl, rfl⟩
        go_wp2_with fail
        refine (HDI.out _).mono ?_
        rintro e u5 ⟨rfl, he5⟩
        have E5 := Lib.hid (bB he5 E3.out.size E3.out)
        clear he5 E3
        have hqd2 : decide (Q ≤ max 0 dq) = true := decide_eq_true hqd
        go_wp2_with fail
        refine (HVI.out _).mono ?_
        rintro e u6 ⟨rfl, he6⟩
        have E6 := Lib.hid (bB he6 E5.out.size E5.out)
        clear he6 E5
        go_wp2_with fail
        refine (HVM.out _).mono ?_
        rintro e u7 ⟨rfl, he7⟩
        have E7 := Lib.hid (bB he7 E6.out.size E6.out)
        clear he7 E6
        go_wp2_with fail
        refine (HQI2.out _).mono ?_
        rintro e u8 ⟨rfl, he8⟩
        have E8 := Lib.hid (bB he8 E7.out.size E7.out)
        clear he8 E7
        go_wp2_with fail
        refine (HQM2.out _).mono ?_
        rintro e u9 ⟨rfl, rfl⟩
        go_wp2_with fail
        refine (HDI.out _).mono ?_
        rintro e u10 ⟨rfl, he10⟩
        have E10 := Lib.hid (bB he10 E8.out.size E8.out)
        clear he10 E8
        go_wp2_with fail
        refine (HDM.out _).mono ?_
        rintro e u11 ⟨rfl, rfl⟩
        go_wp2
        go_ret
        exact ⟨rfl, E10.out⟩
  · have hgt : ¬ (len0 : Int) ≤ 1048576 := hlen
    have hl : (len0 : Int) ≤ 9223372036854775807 := by
      rcases w0 with ⟨_, rfl, _⟩ | ⟨x, rfl, hlc, hm, _⟩
      · omega
      · unfold maxLen at hm; omega
    have HB := Lib.hid (Draw.big a0 len0 cap0 hl)
    rw [show decide (1048576 < (len0 : Int)) = true from decide_eq_true (by omega)] at HB
    clear w0 hlen hgt hl
    go_enter Tryz.func3, Tryz.ntmps3
    go_wp2_with fail
    refine (HB.out _).mono ?_
    rintro e w1 ⟨rfl, rfl⟩
    go_wp2
    go_ret
    exact ⟨rfl, Below.refl _ _⟩

set_option maxRecDepth 100000 in
theorem contract (H : Type) (enc : TypeId × Value → H) (W : World) (base : Nat) (args : Array Value) (ds gs : List (DataW H)) (before : List MemPlace)
    (hval : ∀ (j : Nat) t v, Tryz.f3.params[j]? = some t → args[j]? = some v → Value.okWide Tryz.prog W .any base t v)
    (hW : DataW.Whole enc Tryz.prog Tryz.f3.params.toList Rows.fnTreesSpec.vars false W args.toList ds gs before) (hL : laidMetH Tryz.prog Rows.fnTreesRow.laid W) :
    Calls Tryz.prog 3 args W fun e W' => ∃ v, e = .returned v ∧ Rows.fnTreesSpec.post enc Tryz.prog Tryz.f3 false true false false W args v W' := by
  have hW' := hW
  obtain ⟨p, q, hA0, hV, rfl, hfz, hnd⟩ := hW
  have hA : DataW.TrodAll enc Tryz.prog W 0 (fun _ => true) true Tryz.f3.params.toList args.toList ds p := hA0
  rw [Tryz.params3] at hA hval
  obtain ⟨v0, vs0, d0, ds0, p0, q0, hargs, rfl, rfl, h0, r0⟩ := trodAll_cons hA
  obtain ⟨rfl, rfl, rfl⟩ := trodAll_nil r0
  obtain rfl : args = #[v0] := by cases args; simp_all
  obtain ⟨rfl, rfl⟩ := trodVars_none hV
  obtain ⟨a0, len0, cap0, rfl⟩ := okWide_slice Tryz.underlying22 (hval 0 22 v0 rfl rfl)
  have k0 := h0
  have lt0 : ∀ x ∈ p0, x.block < W.heap.size := by obtain ⟨m, hm⟩ := k0; exact DataW.trod_lt m _ _ _ hm
  obtain ⟨z0, w0⟩ : ∃ zs, IsRow .u8 W a0 len0 cap0 zs := by
    obtain ⟨fuel, hf⟩ := h0
    rcases open_ints Tryz.underlying22 Tryz.underlying5 (by kernel_rfl) hf with ⟨hcs, _⟩ | ⟨x, l, c, zs, hcs, _, hl, hm, hz, _, hcell, hwz⟩
    · simp [Value.cells] at hcs
      obtain ⟨rfl, rfl, rfl⟩ := hcs
      exact ⟨[], .inl ⟨rfl, rfl, rfl, rfl⟩⟩
    · simp [Value.cells] at hcs
      obtain ⟨rfl, rfl, rfl⟩ := hcs
      exact ⟨zs, .inr ⟨_, rfl, hl, hm, by simpa using hz, hcell, hwz⟩⟩
  clear hA0
  refine (walk a0 len0 cap0 z0 W w0 hL).mono fun e W' ⟨he, bel⟩ => ?_
  subst he
  exact ⟨_, rfl, _, _, _, [], _, [], hW', trodAll_mk1 (shut_bool Tryz.underlying4 _), (trodAll_cons_mk (Below.trod laidOut (by kernel_rfl) (of_decide_eq_true (by kernel_rfl)) k0 bel lt0) trodAll_mk0), rfl, bel.frame _, fun h => by cases h⟩

theorem laid_met (os : Os) (args : Array Value) : laidMetH Tryz.prog Rows.fnTreesRow.laid ((World.doorLaid Tryz.prog 2000 os).forCall (fun _ _ => 0) ⟨#[], args, []⟩).memory := by
  rw [MakeChecks.laidMetH_plain _ _ _ (by kernel_rfl)]
  exact laidMet_of_run' 8 (by kernel_rfl) (by kernel_rfl)
theorem reads (os : Os) {H : Type} (enc : TypeId × Value → H) : ∃ places, DataW.whole enc Tryz.prog ((World.doorLaid Tryz.prog 2000 os).forCall (fun _ _ => 0) ⟨#[], #[.slice none 0 0], []⟩).memory Tryz.f3.params.toList Rows.fnTreesSpec.vars false #[.slice none 0 0].toList 8 = some ([.nil], [], places) :=
  ⟨[], by kernel_rfl⟩

set_option maxRecDepth 100000 in
theorem lifted (os : Os) (started : os.Started) (H : Type) (enc : TypeId × Value → H) (F : Stop.Interp) :
    ReturnsInHanded {} Tryz.checked os 3 .any ((OpenSpec.ofChange Rows.fnTreesSpec).preRow enc Tryz.prog Tryz.f3 Rows.fnTreesRow.domain false Rows.fnTreesRow.laid) (((OpenSpec.ofChange Rows.fnTreesSpec).at F).post enc Tryz.prog Tryz.f3 false true false false) := by
  obtain ⟨places, hx⟩ := reads os enc
  refine returnsInHanded_of_row (C := Tryz.checked) (s := OpenSpec.ofChange Rows.fnTreesSpec) own started (by kernel_rfl) Tryz.func3
    (witness_row_atRef (enc := enc) (C := Tryz.checked) false (World.doorLaid Tryz.prog 2000 os) #[.slice none 0 0] rfl (by kernel_rfl) (by kernel_rfl) (by kernel_rfl)
      (OpenSpec.preRow_of_cond 8 hx (by kernel_rfl) (fun k hk => by cases hk) (by kernel_rfl) (laid_met os _))) ?_
  intro W base args ds gs before hval hW _ _ _ hL _ _
  exact contract H enc W base args ds gs before hval hW hL

theorem said : Rows.FnTreesSaid :=
  OpenClaim.holds_of_cond 3 Tryz.f3 rfl rfl rfl rfl rfl rfl rfl ⟨rfl, rfl, rfl, rfl, rfl⟩ rfl rfl rfl rfl rfl (by kernel_rfl) Tryz.func3 (by kernel_rfl)
    (of_decide_eq_true (by kernel_rfl)) (by unfold Func.isWrapper; first | (rw [if_pos (by decide +kernel)]; kernel_rfl) | (rw [if_neg (by decide +kernel)]; exact ⟨rfl, rfl⟩))
    (fun os started H enc _ F => by rw [OpenClaim.pre_eq_preRow]; exact lifted os started H enc F)

theorem plain (f : FuncId) (fn : Func) (hf : Tryz.pinned.checked.prog.funcNamed "loop.example/g03403/laws.FnTrees" = some f) (hfn : Tryz.pinned.checked.prog.funcs[f]? = some fn) :
    false = Tryz.pinned.checked.prog.looks [] ∧ ∀ (j : Nat) t, fn.params[j]? = some t → Tryz.pinned.checked.prog.wantsStandIn t = false := by
  obtain rfl : f = 3 := Option.some.inj ((show Tryz.prog.funcNamed "loop.example/g03403/laws.FnTrees" = some 3 by kernel_rfl).symm.trans hf) |>.symm
  obtain rfl : fn = Tryz.f3 := (Option.some.inj (Tryz.func3.symm.trans hfn)).symm
  refine ⟨by kernel_rfl, fun j t ht => ?_⟩
  rw [Tryz.params3] at ht
  have hm : t ∈ [22] := by simpa using Array.mem_of_getElem? ht
  have hall : ([22].all fun u => !Tryz.prog.wantsStandIn u) = true := by kernel_rfl
  exact (show Tryz.prog.wantsStandIn t = false by simpa using List.all_eq_true.1 hall t hm)

theorem proved : Rows.FnTreesCardSaid :=
  Claim7.holds_tied_plain_at .later [] _ _ _ _ said (fun _ h => by cases h) (by kernel_rfl) (fun _ h => by cases h) fnTrees_row_tie rfl ⟨rfl, rfl⟩ (by kernel_rfl) rfl plain (by kernel_rfl)
end Go.Proofs.YtdhdkonokbkdoaaGreatDoor.fnTrees
