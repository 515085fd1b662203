/-
  For every slice of bytes, the law of classes returns true: canonical tables are the model's and do not depend on permutations, shifts and negations, classes have as many tables as ways without symmetries, and the least sum of questions is the same for all tables that a permutation and a shift make of one. No condition: the law itself asks nothing of slices longer than 1048576 bytes.
-/
import Derived.Test.YthdcjldmafhcjaaRows
import Derived.WalkKit
import Derived.ProofKit
import Derived.OpenShut
import Derived.ShutString
import Derived.Carry
import Derived.Below
import Derived.Lib.SmallJoins
import Derived.Test.YthdcjldmafhcjaaDrawY
import Derived.Deep.RegionHeld3
import Derived.Deep.DeepCutAuto
import Derived.Deep.DrawnRows
import Derived.Deep.QuietTactic
import Derived.BigQuiet
namespace Go.Proofs.Ythdcjldmafhcjaa.fnClasses
open Go.ChangeShapes Go.WideShapes Go.ChangeAt Go.RowKit
open Go.ChangeMaps (open_string shut_string)
open Go.Joins
set_option linter.unusedVariables false

theorem own : ownKnob Try.prog.godebug = none := by kernel_rfl
theorem laidOut : laidOutB Try.prog = true := by kernel_rfl

open Plain
attribute [local go_sem ↓] Go.wp_at_zero Go.wp_at_succ

/-- A slice of integers that came in: it is nil, or it leads to a row of 'cap' cells, the numbers 'zs', each fitting its kind. -/
def IsRow (k : IntKind) (w : World) (a : Option Addr) (len cap : Nat) (zs : List Int) : Prop :=
  (a = none ∧ len = 0 ∧ cap = 0 ∧ zs = []) ∨
  ∃ x, a = some x ∧ len ≤ cap ∧ cap ≤ maxLen ∧ zs.length = cap ∧ (∀ i, i < zs.length → w.cell? (x.add i) = some (.int k (zs.getD i 0))) ∧ ∀ n ∈ zs, (Lit.int k n).wf = true

theorem codeIn {w : World} {a : Option Addr} {len cap : Nat} {zs : List Int} (h : IsRow .u8 w a len cap zs) (hl : (len : Int) ≤ 1048576) : CodeIn w (.slice a len cap) len := by
  refine ⟨a, cap, rfl, by omega, fun h0 => ?_⟩
  rcases h with ⟨_, rfl, _⟩ | ⟨x, rfl, hlc, hm, hz, hcell, hwf⟩
  · omega
  · obtain ⟨ab, off, spot⟩ := x
    have hc := hcell 0 (by omega)
    have hspot : spot = none := by simpa [Addr.add] using World.cell?_spot hc
    subst hspot
    have hlt := World.block_lt_of_cell? w _ hc
    refine ⟨ab, off, rfl, by simpa [Addr.add] using hlt, fun j hj => ?_⟩
    have hj' : j < zs.length := by omega
    have hb := hwf (zs.getD j 0) (by simp [List.getD, hj'])
    have e1 : IntKind.u8.min = 0 := rfl
    have e2 : IntKind.u8.max = 255 := rfl
    simp only [Lit.wf, Bool.and_eq_true, decide_eq_true_eq, e1, e2] at hb
    have hadd : (⟨ab, off, none⟩ : Addr).add j = ⟨ab, off + j, none⟩ := by unfold Addr.add; split <;> simp_all
    exact ⟨zs.getD j 0, hb.1, hb.2, hadd ▸ hcell j hj'⟩

set_option maxRecDepth 100000 in
set_option maxHeartbeats 8000000 in
theorem walk (a0 : Option Addr) (len0 cap0 : Nat) (z0 : List Int) (W : World) (w0 : IsRow .u8 W a0 len0 cap0 z0) :
    Calls Try.prog 3 #[.slice a0 len0 cap0] W fun e w' => e = .returned (.bool true) ∧ Below W.heap.size W w' := by
  by_cases hlen : (len0 : Int) ≤ 1048576
  · have CODE := Lib.hid (codeIn w0 hlen)
    have HB := Lib.hid (Big.no a0 len0 cap0 hlen)
    clear w0 hlen
    go_enter Try.func3, Try.ntmps3
    go_wp2_with fail
    refine (HB.out _).mono ?_
    rintro e w1 ⟨rfl, rfl⟩
    go_wp2_with fail
    refine (Draw.canonical _ len0 _ CODE.out).mono ?_
    rintro e w1 ⟨n, a, rfl, hn, ha, hb1⟩
    have A64 := Lib.hid (show -9223372036854775808 ≤ a ∧ a ≤ 9223372036854775807 from ha)
    have B1 := Lib.hid (bA hb1.size hb1 (o := .cells #[.int .i64 n, .int .i64 a] 25))
    have f0 : (w1.alloc (.cells #[.int .i64 n, .int .i64 a] 25)).cell? ⟨w1.heap.size, 0, none⟩ = some (.int .i64 n) := keepN rfl rfl
    have f1 : (w1.alloc (.cells #[.int .i64 n, .int .i64 a] 25)).cell? ⟨w1.heap.size, 1, none⟩ = some (.int .i64 a) := keepN rfl rfl
    have hs1 := hb1.size
    have HCI := Lib.hid (Cls.canI n a ha)
    have HCM := Lib.hid (Cls.canM n a)
    have HSI := Lib.hid (Cls.symI n a ha)
    have HSM := Lib.hid (Cls.symM n a)
    have HZI := Lib.hid (Cls.sizI n a ha)
    have HZM := Lib.hid (Cls.sizM n a)
    obtain ⟨p, q, ok, hct⟩ : ∃ p q ok, canT n a = (p, q, ok) := ⟨_, _, _, rfl⟩
    rw [hct] at HCI HCM
    have HCT := Lib.hid hct
    obtain ⟨sy, hsy⟩ : ∃ sy, symT n a = sy := ⟨_, rfl⟩
    obtain ⟨sz, hsz⟩ : ∃ sz, sizT n a = sz := ⟨_, rfl⟩
    rw [hsy] at HSI HSM
    rw [hsz] at HZI HZM
    have HSY := Lib.hid hsy
    have HSZ := Lib.hid hsz
    clear hn ha hb1 hct hsy hsz
    go_wp2_with fail
    refine (HCI.out _).mono ?_
    rintro e w2 ⟨rfl, hb2⟩
    dsimp only
    have B2 := Lib.hid (B1.out.trans (hb2.mono B1.out.size))
    have B2' := Lib.hid (bA (o := .cells #[.int .i64 p, .int .i64 q] 25) B2.out.size B2.out)
    replace f0 := keepA (o := .cells #[.int .i64 p, .int .i64 q] 25) (keepB hb2 f0)
    replace f1 := keepA (o := .cells #[.int .i64 p, .int .i64 q] 25) (keepB hb2 f1)
    have g0 : (w2.alloc (.cells #[.int .i64 p, .int .i64 q] 25)).cell? ⟨w2.heap.size, 0, none⟩ = some (.int .i64 p) := keepN rfl rfl
    have g1 : (w2.alloc (.cells #[.int .i64 p, .int .i64 q] 25)).cell? ⟨w2.heap.size, 1, none⟩ = some (.int .i64 q) := keepN rfl rfl
    have hs2 : w1.heap.size < w2.heap.size := by have := hb2.size; simp at this; omega
    clear hb2
    go_wp2_with fail
    refine (HCM.out _).mono ?_
    rintro e w3 ⟨rfl, hb3⟩
    dsimp only
    have B3 := Lib.hid (B2'.out.trans (hb3.mono B2'.out.size))
    have B3' := Lib.hid (bA (o := .cells #[.int .i64 p, .int .i64 q] 25) B3.out.size B3.out)
    replace f0 := keepA (o := .cells #[.int .i64 p, .int .i64 q] 25) (keepB hb3 f0)
    replace f1 := keepA (o := .cells #[.int .i64 p, .int .i64 q] 25) (keepB hb3 f1)
    replace g0 := keepA (o := .cells #[.int .i64 p, .int .i64 q] 25) (keepB hb3 g0)
    replace g1 := keepA (o := .cells #[.int .i64 p, .int .i64 q] 25) (keepB hb3 g1)
    have h0 : (w3.alloc (.cells #[.int .i64 p, .int .i64 q] 25)).cell? ⟨w3.heap.size, 0, none⟩ = some (.int .i64 p) := keepN rfl rfl
    have h1 : (w3.alloc (.cells #[.int .i64 p, .int .i64 q] 25)).cell? ⟨w3.heap.size, 1, none⟩ = some (.int .i64 q) := keepN rfl rfl
    have hs3 : w2.heap.size < w3.heap.size := by have := hb3.size; simp at this; omega
    have hs3' : (w3.alloc (.cells #[.int .i64 p, .int .i64 q] 25)).heap.size = w3.heap.size + 1 := by simp
    clear hb3 B1 B2 B2' B3 HCI HCM
    go_wp2_with fail
    generalize w3.alloc (.cells #[.int .i64 p, .int .i64 q] 25) = W3 at *
    go_region_held3 (fun w' => w'.cell? ⟨w1.heap.size, 0, none⟩ = some (.int .i64 n) ∧ w'.cell? ⟨w1.heap.size, 1, none⟩ = some (.int .i64 a) ∧ w'.cell? ⟨w2.heap.size, 0, none⟩ = some (.int .i64 p) ∧ w'.cell? ⟨w2.heap.size, 1, none⟩ = some (.int .i64 q) ∧ w'.cell? ⟨w3.heap.size, 0, none⟩ = some (.int .i64 p) ∧ w'.cell? ⟨w3.heap.size, 1, none⟩ = some (.int .i64 q)) ((first | (go_split_ands; (try dsimp only); (refine ⟨?_, ?_, ?_, ?_, ?_, ?_⟩ <;> (repeat (first | with_reducible assumption | ((with_reducible refine keepU ?_); (with_reducible assumption)) | (with_reducible refine keepD ?_) | (with_reducible refine keepB hb4 ?_) | (with_reducible refine keepB hb5 ?_) | (with_reducible refine keepB hb6 ?_) | (with_reducible refine keepB hb7 ?_)))); done) | go_keep))
      (first
        | (with_reducible refine (HSI.out _).mono ?_; rintro e w4 ⟨rfl, hb4⟩; obtain ⟨hc4, hf4⟩ := bcell hb4; have hs4 := hb4.size; try simp only [World.size_drew] at hs4)
        | (with_reducible refine (HSM.out _).mono ?_; rintro e w5 ⟨rfl, hb5⟩; obtain ⟨hc5, hf5⟩ := bcell hb5; have hs5 := hb5.size; try simp only [World.size_drew] at hs5)
        | (with_reducible refine (HZI.out _).mono ?_; rintro e w6 ⟨rfl, hb6⟩; obtain ⟨hc6, hf6⟩ := bcell hb6; have hs6 := hb6.size; try simp only [World.size_drew] at hs6)
        | (with_reducible refine (HZM.out _).mono ?_; rintro e w7 ⟨rfl, hb7⟩; obtain ⟨hc7, hf7⟩ := bcell hb7; have hs7 := hb7.size; try simp only [World.size_drew] at hs7))
    have B7 : Hid (Below W.heap.size W w7) := Lib.hid (by (repeat (first | (with_reducible exact B3'.out) | (with_reducible refine bD ?_) | ((with_reducible refine bB hb4 ?_ ?_); (focus (first | omega | (simp; done) | (simp; omega)))) | ((with_reducible refine bB hb5 ?_ ?_); (focus (first | omega | (simp; done) | (simp; omega)))) | ((with_reducible refine bB hb6 ?_ ?_); (focus (first | omega | (simp; done) | (simp; omega)))) | ((with_reducible refine bB hb7 ?_ ?_); (focus (first | omega | (simp; done) | (simp; omega)))))))
    clear hc4 hf4 hs4 hc5 hf5 hs5 hc6 hf6 hs6 hc7 hf7
    cases ok with
    | false =>
      as_aux_lemma =>
      have BX := Lib.hid B7.out
      clear HSI HSM HZI HZM HSY HSZ HCT f0 f1 g0 g1 h0 h1 hb4 hb5 hb6 hb7
      go_wp2_with fail
      -- the end: draws of pairs and numbers
      refine (Draw.alike _ len0 _ (CODE.out.below BX.out)).mono ?_
      rintro e c1 ⟨n2, a2, m2, c2, rfl, hn2, ha2, hm2, hc2, hd1⟩
      have HAI := Lib.hid (Cls.alI n2 a2 m2 c2 ha2 hc2)
      have HAM := Lib.hid (Cls.alM n2 a2 m2 c2)
      generalize aliT n2 a2 m2 c2 = al at HAI HAM
      have E1 := Lib.hid (BX.out.trans (hd1.mono BX.out.size))
      have E2 := Lib.hid (bA (o := .cells #[.int .i64 m2, .int .i64 c2] 25) (by have := E1.out.size; simp; omega) (bA (o := .cells #[.int .i64 n2, .int .i64 a2] 25) E1.out.size E1.out))
      have k0 : ((c1.alloc (.cells #[.int .i64 n2, .int .i64 a2] 25)).alloc (.cells #[.int .i64 m2, .int .i64 c2] 25)).cell? ⟨c1.heap.size, 0, none⟩ = some (.int .i64 n2) := keepA (keepN rfl rfl)
      have k1 : ((c1.alloc (.cells #[.int .i64 n2, .int .i64 a2] 25)).alloc (.cells #[.int .i64 m2, .int .i64 c2] 25)).cell? ⟨c1.heap.size, 1, none⟩ = some (.int .i64 a2) := keepA (keepN rfl rfl)
      have k2 : ((c1.alloc (.cells #[.int .i64 n2, .int .i64 a2] 25)).alloc (.cells #[.int .i64 m2, .int .i64 c2] 25)).cell? ⟨c1.heap.size + 1, 0, none⟩ = some (.int .i64 m2) := keepN (by simp) rfl
      have k3 : ((c1.alloc (.cells #[.int .i64 n2, .int .i64 a2] 25)).alloc (.cells #[.int .i64 m2, .int .i64 c2] 25)).cell? ⟨c1.heap.size + 1, 1, none⟩ = some (.int .i64 c2) := keepN (by simp) rfl
      clear hn2 ha2 hm2 hc2 hd1 E1
      go_wp2_with fail
      generalize (c1.alloc (.cells #[.int .i64 n2, .int .i64 a2] 25)).alloc (.cells #[.int .i64 m2, .int .i64 c2] 25) = C1 at *
      refine (Draw.count4 _ len0 _ (CODE.out.below E2.out)).mono ?_
      rintro e c3 ⟨x3, rfl, _, hd2⟩
      have HTI := Lib.hid (Cls.ctcI x3)
      have HTM := Lib.hid (Cls.ctcM x3)
      generalize ctcT x3 = ct at HTI HTM
      have E3 := Lib.hid (E2.out.trans (hd2.mono E2.out.size))
      replace k0 := keepB hd2 k0
      replace k1 := keepB hd2 k1
      replace k2 := keepB hd2 k2
      replace k3 := keepB hd2 k3
      clear hd2
      go_wp2_with fail
      refine (Draw.perms4 _ len0 _ (CODE.out.below E3.out)).mono ?_
      rintro e c4 ⟨x4, rfl, _, hd3⟩
      have E4 := Lib.hid (E3.out.trans (hd3.mono E3.out.size))
      replace k0 := keepB hd3 k0
      replace k1 := keepB hd3 k1
      replace k2 := keepB hd3 k2
      replace k3 := keepB hd3 k3
      clear hd3
      go_wp2_with fail
      refine (Perm.permI x4 _).mono ?_
      rintro e c5 ⟨⟨v5, us5, rfl, hus5⟩, hd4⟩
      have HU5 := Lib.hid (hus5.own.rd (listP_small x4))
      have E5 := Lib.hid (E4.out.trans (hd4.mono E4.out.size))
      replace k0 := keepB hd4 k0
      replace k1 := keepB hd4 k1
      replace k2 := keepB hd4 k2
      replace k3 := keepB hd4 k3
      clear hd4 hus5
      go_wp2_with fail
      refine (Perm.permM x4 _).mono ?_
      rintro e c6 ⟨⟨v6, rfl, hrd6⟩, hd5⟩
      have HU6 := Lib.hid (HU5.out.below hd5)
      have HV6 := Lib.hid hrd6
      have E6 := Lib.hid (E5.out.trans (hd5.mono E5.out.size))
      replace k0 := keepB hd5 k0
      replace k1 := keepB hd5 k1
      replace k2 := keepB hd5 k2
      replace k3 := keepB hd5 k3
      have hE6 := E6.out.size
      generalize listP x4 = lp at HU6 HV6
      generalize okP x4 = op4 at *
      clear hd5 hrd6 HU5 E2 E3 E4 E5
      go_wp2_with fail
      go_region_held3 (fun w' => w'.cell? ⟨c1.heap.size, 0, none⟩ = some (.int .i64 n2) ∧ w'.cell? ⟨c1.heap.size, 1, none⟩ = some (.int .i64 a2) ∧ w'.cell? ⟨c1.heap.size + 1, 0, none⟩ = some (.int .i64 m2) ∧ w'.cell? ⟨c1.heap.size + 1, 1, none⟩ = some (.int .i64 c2)) ((first | (go_split_ands; (try dsimp only); (refine ⟨?_, ?_, ?_, ?_⟩ <;> (repeat (first | with_reducible assumption | ((with_reducible refine keepU ?_); (with_reducible assumption)) | (with_reducible refine keepD ?_) | (with_reducible refine keepB hb14 ?_) | (with_reducible refine keepB hb15 ?_) | (with_reducible refine keepB hb16 ?_) | (with_reducible refine keepB hb17 ?_) | (with_reducible refine keepB hb18 ?_)))); done) | go_keep))
        (first
          | (with_reducible refine (HAI.out _).mono ?_; rintro e w14 ⟨rfl, hb14⟩; obtain ⟨hc14, hf14⟩ := bcell hb14; have hs14 := hb14.size; try simp only [World.size_drew] at hs14)
          | (with_reducible refine (HAM.out _).mono ?_; rintro e w15 ⟨rfl, hb15⟩; obtain ⟨hc15, hf15⟩ := bcell hb15; have hs15 := hb15.size; try simp only [World.size_drew] at hs15)
          | (with_reducible refine (HTI.out _).mono ?_; rintro e w16 ⟨rfl, hb16⟩; obtain ⟨hc16, hf16⟩ := bcell hb16; have hs16 := hb16.size; try simp only [World.size_drew] at hs16)
          | (with_reducible refine (HTM.out _).mono ?_; rintro e w17 ⟨rfl, hb17⟩; obtain ⟨hc17, hf17⟩ := bcell hb17; have hs17 := hb17.size; try simp only [World.size_drew] at hs17)
          | (with_reducible refine (Lists.sameB _ _ lp _ (HU6.out.below (by (repeat (first | (with_reducible exact Below.refl _ _) | (with_reducible refine bD ?_) | ((with_reducible refine bB hb14 ?_ ?_); (focus (first | omega | (simp; done) | (simp; omega)))) | ((with_reducible refine bB hb15 ?_ ?_); (focus (first | omega | (simp; done) | (simp; omega)))) | ((with_reducible refine bB hb16 ?_ ?_); (focus (first | omega | (simp; done) | (simp; omega)))) | ((with_reducible refine bB hb17 ?_ ?_); (focus (first | omega | (simp; done) | (simp; omega)))))))) (HV6.out.below (by (repeat (first | (with_reducible exact Below.refl _ _) | (with_reducible refine bD ?_) | ((with_reducible refine bB hb14 ?_ ?_); (focus (first | omega | (simp; done) | (simp; omega)))) | ((with_reducible refine bB hb15 ?_ ?_); (focus (first | omega | (simp; done) | (simp; omega)))) | ((with_reducible refine bB hb16 ?_ ?_); (focus (first | omega | (simp; done) | (simp; omega)))) | ((with_reducible refine bB hb17 ?_ ?_); (focus (first | omega | (simp; done) | (simp; omega))))))))).mono ?_; rintro e w18 ⟨rfl, hb18⟩; obtain ⟨hc18, hf18⟩ := bcell hb18; have hs18 := hb18.size; try simp only [World.size_drew] at hs18))
      all_goals
        go_wp2
        go_ret
        exact ⟨rfl, by (repeat (first | (with_reducible exact E6.out) | (with_reducible refine bD ?_) | ((with_reducible refine bB hb14 ?_ ?_); (focus (first | omega | (simp; done) | (simp; omega)))) | ((with_reducible refine bB hb15 ?_ ?_); (focus (first | omega | (simp; done) | (simp; omega)))) | ((with_reducible refine bB hb16 ?_ ?_); (focus (first | omega | (simp; done) | (simp; omega)))) | ((with_reducible refine bB hb17 ?_ ?_); (focus (first | omega | (simp; done) | (simp; omega)))) | ((with_reducible refine bB hb18 ?_ ?_); (focus (first | omega | (simp; done) | (simp; omega))))))⟩
    | true =>
      obtain ⟨N, A, rfl, rfl, hN, hA, rfl, rfl, rfl, rfl⟩ := class_yes HCT.out HSY.out HSZ.out
      have HNN := Lib.hid hN
      have HAA := Lib.hid hA
      have hf5 := fullN_le N (by omega)
      have F0 := keepB hb7 (keepB hb6 (keepB hb5 (keepB hb4 (keepD f0))))
      have F1 := keepB hb7 (keepB hb6 (keepB hb5 (keepB hb4 (keepD f1))))
      have H0 := keepB hb7 (keepB hb6 (keepB hb5 (keepB hb4 (keepD h0))))
      have H1 := keepB hb7 (keepB hb6 (keepB hb5 (keepB hb4 (keepD h1))))
      have hs7 : w3.heap.size < w7.heap.size := by have a4 := hb4.size; have a5 := hb5.size; have a6 := hb6.size; have a7 := hb7.size; simp only [World.size_drew] at a4; omega
      clear f0 f1 g0 g1 h0 h1 hb4 hb5 hb6 hb7 HSM HZM HSY HSZ HCT HB B3'
      obtain ⟨x3, hx3, hat3⟩ := Law.atF _ len0 3 (by decide) W CODE.out
      obtain ⟨x4, hx4, hat4⟩ := Law.atF _ len0 4 (by decide) W CODE.out
      have HAT3 := Lib.hid hat3
      have HAT4 := Lib.hid hat4
      clear hat3 hat4
      go_wp2_with fail
      refine (Perm.permI (N : Int) _).mono ?_
      rintro e b1 ⟨⟨v, us, rfl, hus⟩, hd1⟩
      have hrd := hus.own.rd (listP_small (N : Int))
      rw [listP_yes HNN.out] at hrd
      replace F0 := keepB hd1 F0
      replace F1 := keepB hd1 F1
      replace H0 := keepB hd1 H0
      replace H1 := keepB hd1 H1
      have D1 := Lib.hid (B7.out.trans (hd1.mono B7.out.size))
      have hs8 : w3.heap.size < b1.heap.size := by have := hd1.size; omega
      obtain ⟨va, vc, rfl, _, _⟩ := id hrd
      have hlp := perms_le N HNN.out
      have hl0 : 0 < (permsL N).length := by rcases perms_len N HNN.out with h | h | h | h | h <;> omega
      have hi3 : x3 % (permsL N).length < (permsL N).length := Nat.mod_lt _ hl0
      have htm3 := tmodN x3 (permsL N).length
      obtain ⟨rb, off, pad, pcp, rfl, hrc, hin⟩ := hrd.cell _ hi3
      have hpm := getD_in hi3
      generalize (permsL N).getD (x3 % (permsL N).length) [] = pl at *
      generalize x3 % (permsL N).length = i3 at *
      have HML := Lib.hid (all_mul HNN.out HAA.out)
      generalize hLL : (permsL N).length = L at *
      clear hLL
      have HPM := Lib.hid (fun w hv => Tab.perM_yes N A pad pl.length pcp pl (isT_yes (by have := HNN.out; omega) HAA.out) (by have := HNN.out; omega) (by omega) (perms_ok N HNN.out pl hpm) w hv)
      have HIN := Lib.hid hin
      have HPB := Lib.hid hpm
      have hLz : (L : Int) ≤ 24 := by omega
      have hi3z : (i3 : Int) < (L : Int) := by omega
      have hrb : rb < b1.heap.size := by
        by_cases hh : rb < b1.heap.size
        · exact hh
        · have hn : b1.heap[rb]? = none := Array.getElem?_eq_none (by omega)
          simp [World.cell?, hn] at hrc
      obtain ⟨P1, hP1⟩ : ∃ P1, perW N A pl = P1 := ⟨_, rfl⟩
      rw [hP1] at HPM
      have HP1 := Lib.hid hP1
      have hPf : P1 ≤ fullN N := by rw [← hP1]; exact tabN_full _ _
      clear hP1
      have hs9 : w1.heap.size < b1.heap.size := by omega
      have hwi : IntKind.i64.wrap (i3 : Int) = (i3 : Int) := IntWalk.i64_in _ (by omega)
      clear hus hrd hd1 hin hpm hlp
      go_wp2_with fail
      have hLne : ((L : Int) == 0) = false := by rw [beq_eq_false_iff_ne]; omega
      have hLn0 : L ≠ 0 := by omega
      have hLni : ¬ (L : Int) = 0 := by omega
      go_cut [10, 11] (fun s10 s11 wx => ∃ g : Nat, s10 = .pointer (some ⟨g, 0, none⟩) ∧ s11 = .bool true ∧ (wx.cell? ⟨g, 0, none⟩ = some (.int .i64 (N : Int)) ∧ wx.cell? ⟨g, 1, none⟩ = some (.int .i64 (P1 : Int))) ∧ (b1.heap.size ≤ g ∧ g < wx.heap.size) ∧ Below b1.heap.size b1 wx)
      case first =>
        as_aux_lemma =>
        go_region_held3 (fun w' => w'.cell? ⟨w1.heap.size, 0, none⟩ = some (.int .i64 (N : Int)) ∧ w'.cell? ⟨w1.heap.size, 1, none⟩ = some (.int .i64 (A : Int)) ∧ w'.cell? ⟨rb, off + i3, none⟩ = some (.slice pad pl.length pcp)) ((first | (go_split_ands; (try dsimp only); (refine ⟨?_, ?_, ?_⟩ <;> (repeat (first | with_reducible assumption | ((with_reducible refine keepU ?_); (with_reducible assumption)) | (with_reducible refine keepD ?_) | (with_reducible refine keepA ?_) | ((with_reducible refine keepS ?_ ?_); (focus (dsimp only; omega))) | (with_reducible refine keepB hd3 ?_)))); done) | go_keep))
          (first
            | (go_at_call 21; refine (HAT3.out _ (by (repeat (first | (with_reducible exact D1.out) | (with_reducible refine bD ?_) | ((with_reducible refine bA ?_ ?_); (focus (first | omega | (simp; done) | (simp; omega)))) | ((with_reducible refine bS ?_ ?_); (focus (dsimp only; omega))))))).mono ?_; rintro e b2 ⟨rfl, rfl⟩)
            | (go_at_call 20; refine (HPM.out _ (HIN.out.below (by (repeat (first | (with_reducible exact Below.refl _ _) | (with_reducible refine bD ?_) | ((with_reducible refine bA ?_ ?_); (focus (first | omega | (simp; done) | (simp; omega)))) | ((with_reducible refine bS ?_ ?_); (focus (dsimp only; omega)))))))).mono ?_; rintro e b3 ⟨rfl, hd3⟩; have hs3z := hd3.size; (try simp only [World.size_drew, World.size_alloc] at hs3z); (try (have e6 := blockB (b := b1.heap.size) hd3 (by first | (with_reducible exact heap_alloc_new b1 (.cells #[.int .i64 0, .int .i64 0] 25 (0, 0))) | (with_reducible refine dropD4 ?_; with_reducible exact heap_alloc_new b1 (.cells #[.int .i64 0, .int .i64 0] 25 (0, 0)))); obtain ⟨e0, e1, e2, e3⟩ := cells2 e6; have hs3y := lt_of_block e6; clear e6))))
        all_goals
          go_wp2_with fail
          go_meet
          refine ⟨_, rfl, rfl, ?_, ?_, ?_⟩
          · first | exact ⟨keepN rfl rfl, keepN rfl rfl⟩ | exact keepT e0 e1
          · first | exact ⟨by omega, by first | omega | (simp; done) | (simp; omega)⟩ | exact ⟨Nat.le_refl _, by first | omega | (simp; done) | (simp; omega)⟩
          · (repeat (first | (with_reducible exact Below.refl _ _) | (with_reducible refine bD ?_) | ((with_reducible refine bB hd3 ?_ ?_); (focus (first | omega | (simp; done) | (simp; omega)))) | ((with_reducible refine bA ?_ ?_); (focus (first | omega | (simp; done) | (simp; omega)))) | ((with_reducible refine bS ?_ ?_); (focus (dsimp only; omega)))))
      case rest =>
        as_aux_lemma =>
        obtain ⟨g, rfl, rfl, ⟨p0, p1⟩, ⟨hg1, hg2⟩, hbc⟩ := hcut
        obtain ⟨wd, rfl⟩ : ∃ Y, Y = wc := ⟨wc, rfl⟩
        replace F0 := keepB hbc F0
        replace F1 := keepB hbc F1
        replace H0 := keepB hbc H0
        replace H1 := keepB hbc H1
        have D2 := Lib.hid (D1.out.trans (hbc.mono D1.out.size))
        have hsc := hbc.size
        clear hbc hrc HPM HIN HAT3 htm3 hwi hi3z hrb
        obtain ⟨M, hM⟩ : ∃ M : Nat, 2 ^ N = M := ⟨_, rfl⟩
        have hM0 : 0 < M := by rw [← hM]; exact Nat.pow_pos (by decide)
        have hM16 : M ≤ 16 := by rw [← hM]; have := Nat.pow_le_pow_right (n := 2) (by decide) HNN.out; omega
        have hpw : IntKind.i64.wrap ((2 : Int) ^ N) = (M : Int) := by rw [up2, hM]; exact IntWalk.i64_in _ (by omega)
        have hi4 : x4 % M < M := Nat.mod_lt _ hM0
        have htm4 := tmodN x4 M
        have hlw := law_way HNN.out HAA.out HPB.out (s := x4 % M) (by rw [hM]; exact hi4)
        rw [HP1.out] at hlw
        have HSH := Lib.hid (fun w => Tab.shiM_yes N P1 (x4 % M) (isT_yes (by have := HNN.out; omega) hPf) (by have := HNN.out; omega) (by omega) (by rw [up2, hM]; omega) w)
        obtain ⟨Y, hY⟩ : ∃ Y, shiW N P1 (x4 % M) = Y := ⟨_, rfl⟩
        rw [hY] at hlw HSH
        have HLW := Lib.hid hlw
        generalize x4 % M = i4 at *
        have hi4z : (i4 : Int) < (M : Int) := by omega
        have hMz : (0 : Int) < (M : Int) := by omega
        have hMz' : (M : Int) ≤ 16 := by omega
        have hMne : ((M : Int) == 0) = false := by rw [beq_eq_false_iff_ne]; omega
        have hMn0 : M ≠ 0 := by omega
        have hMni : ¬ (M : Int) = 0 := by omega
        have hwi4 : IntKind.i64.wrap (i4 : Int) = (i4 : Int) := IntWalk.i64_in _ (by omega)
        have HMM := Lib.hid hM
        have hw1c : w1.heap.size < wd.heap.size := by omega
        have hw3c : w3.heap.size < wd.heap.size := by omega
        clear hM hlw hY hi4 hM0 hM16
        go_wp2_with fail
        go_cut [12, 13] (fun s12 s13 wx => ∃ h : Nat, s12 = .pointer (some ⟨h, 0, none⟩) ∧ s13 = .bool true ∧ (wx.cell? ⟨h, 0, none⟩ = some (.int .i64 (N : Int)) ∧ wx.cell? ⟨h, 1, none⟩ = some (.int .i64 (Y : Int))) ∧ (wd.heap.size ≤ h ∧ h < wx.heap.size) ∧ Below wd.heap.size wd wx)
        case first =>
          as_aux_lemma =>
          go_region_held3 (fun w' => w'.cell? ⟨g, 0, none⟩ = some (.int .i64 (N : Int)) ∧ w'.cell? ⟨g, 1, none⟩ = some (.int .i64 (P1 : Int)) ∧ w'.cell? ⟨w1.heap.size, 0, none⟩ = some (.int .i64 (N : Int))) ((first | (go_split_ands; (try dsimp only); (refine ⟨?_, ?_, ?_⟩ <;> (repeat (first | with_reducible assumption | ((with_reducible refine keepU ?_); (with_reducible assumption)) | (with_reducible refine keepD ?_) | (with_reducible refine keepA ?_) | ((with_reducible refine keepS ?_ ?_); (focus (dsimp only; omega))) | (with_reducible refine keepB hd3 ?_)))); done) | go_keep))
            (first
              | (go_at_call 21; refine (HAT4.out _ (by (repeat (first | (with_reducible exact D2.out) | (with_reducible refine bD ?_) | ((with_reducible refine bA ?_ ?_); (focus (first | omega | (simp; done) | (simp; omega)))) | ((with_reducible refine bS ?_ ?_); (focus (dsimp only; omega))))))).mono ?_; rintro e b2 ⟨rfl, rfl⟩)
              | (go_at_call 22; refine (HSH.out _).mono ?_; rintro e b3 ⟨rfl, hd3⟩; have hs3z := hd3.size; (try simp only [World.size_drew, World.size_alloc] at hs3z); (try (have e6 := blockB (b := wd.heap.size) hd3 (by first | (with_reducible exact heap_alloc_new wd (.cells #[.int .i64 0, .int .i64 0] 25 (0, 0))) | (with_reducible refine dropD4 ?_; with_reducible exact heap_alloc_new wd (.cells #[.int .i64 0, .int .i64 0] 25 (0, 0)))); obtain ⟨e0, e1, e2, e3⟩ := cells2 e6; have hs3y := lt_of_block e6; clear e6))))
          all_goals
            go_wp2_with fail
            go_meet
            refine ⟨_, rfl, rfl, ?_, ?_, ?_⟩
            · first | exact ⟨keepN rfl rfl, keepN rfl rfl⟩ | exact keepT e0 e1
            · first | exact ⟨by omega, by first | omega | (simp; done) | (simp; omega)⟩ | exact ⟨Nat.le_refl _, by first | omega | (simp; done) | (simp; omega)⟩
            · (repeat (first | (with_reducible exact Below.refl _ _) | (with_reducible refine bD ?_) | ((with_reducible refine bB hd3 ?_ ?_); (focus (first | omega | (simp; done) | (simp; omega)))) | ((with_reducible refine bA ?_ ?_); (focus (first | omega | (simp; done) | (simp; omega)))) | ((with_reducible refine bS ?_ ?_); (focus (dsimp only; omega)))))
        case rest =>
          as_aux_lemma =>
          obtain ⟨h, rfl, rfl, ⟨y0, y1⟩, ⟨hh1, hh2⟩, hbd⟩ := hcut
          have D3 := Lib.hid (D2.out.trans (hbd.mono D2.out.size))
          replace F0 := keepB hbd F0
          replace F1 := keepB hbd F1
          replace H0 := keepB hbd H0
          replace H1 := keepB hbd H1
          have hsd := hbd.size
          clear hbd p0 p1 HSH HAT4 htm4 hwi4 hi4z
          obtain ⟨lw1, lw2, lw3, lw4⟩ := HLW.out
          have hN5 : N ≤ 5 := by have := HNN.out; omega
          have hfN := fullN_le N hN5
          have HNT := Lib.hid (Tab.notM_yes N Y hN5 lw1)
          have hZf : fullN N - Y ≤ fullN N := Nat.sub_le _ _
          have HCY := Lib.hid (Cls.canI (N : Int) (Y : Int) (by omega))
          rw [canT_yes (isT_yes hN5 lw1) HNN.out, lw2] at HCY
          have HCZ := Lib.hid (Cls.canI (N : Int) ((fullN N - Y : Nat) : Int) (by omega))
          rw [canT_yes (isT_yes hN5 hZf) HNN.out, lw3] at HCZ
          have HAL := Lib.hid (Cls.alI (N : Int) (A : Int) (N : Int) ((fullN N - Y : Nat) : Int) (by have := HAA.out; omega) (by omega))
          rw [ali_yes HNN.out HAA.out hZf lw3] at HAL
          have HLF := Lib.hid (La.impl (N : Int) (A : Int) (by have := HAA.out; omega))
          rw [laT_yes HNN.out HAA.out] at HLF
          have HLY := Lib.hid (La.impl (N : Int) (Y : Int) (by omega))
          rw [laT_yes HNN.out lw1, lw4] at HLY
          have hQA : (leastW N A : Int) ≤ (A : Int) := by have := leastW_le N A; omega
          generalize (waysL N A).length / (waysL N A).count A = szv at *
          generalize (waysL N A).count A = syv at *
          generalize fullN N - Y = Z at *
          generalize leastW N A = Q at *
          generalize cst JA N A = av at *
          have hgt : decide ((A : Int) < (Q : Int)) = false := decide_eq_false (by omega)
          have hh0 : w3.heap.size < h := by omega
          clear lw1 lw2 lw3 lw4 HLW hZf hfN
          go_wp2_with fail
          refine (HNT.out _).mono ?_
          rintro e d1 ⟨rfl, hd1⟩
          have D4 := Lib.hid (D3.out.trans (hd1.mono D3.out.size))
          have D4' := Lib.hid (bA (o := (.cells #[.int .i64 (N : Int), .int .i64 (Z : Int)] 25)) D4.out.size D4.out)
          replace F0 := keepA (o := (.cells #[.int .i64 (N : Int), .int .i64 (Z : Int)] 25)) (keepB hd1 F0)
          replace F1 := keepA (o := (.cells #[.int .i64 (N : Int), .int .i64 (Z : Int)] 25)) (keepB hd1 F1)
          replace H0 := keepA (o := (.cells #[.int .i64 (N : Int), .int .i64 (Z : Int)] 25)) (keepB hd1 H0)
          replace H1 := keepA (o := (.cells #[.int .i64 (N : Int), .int .i64 (Z : Int)] 25)) (keepB hd1 H1)
          replace y0 := keepA (o := (.cells #[.int .i64 (N : Int), .int .i64 (Z : Int)] 25)) (keepB hd1 y0)
          replace y1 := keepA (o := (.cells #[.int .i64 (N : Int), .int .i64 (Z : Int)] 25)) (keepB hd1 y1)
          have z0 : (d1.alloc (.cells #[.int .i64 (N : Int), .int .i64 (Z : Int)] 25)).cell? ⟨d1.heap.size, 0, none⟩ = some (.int .i64 (N : Int)) := keepN rfl rfl
          have z1 : (d1.alloc (.cells #[.int .i64 (N : Int), .int .i64 (Z : Int)] 25)).cell? ⟨d1.heap.size, 1, none⟩ = some (.int .i64 (Z : Int)) := keepN rfl rfl
          have hsd1 : h < d1.heap.size := by have := hd1.size; omega
          clear hd1
          go_wp2_with fail
          refine (HCY.out _).mono ?_
          rintro e d2 ⟨rfl, hd2⟩
          dsimp only
          have D5 := Lib.hid (D4'.out.trans (hd2.mono D4'.out.size))
          have D5' := Lib.hid (bA (o := (.cells #[.int .i64 (N : Int), .int .i64 (Q : Int)] 25)) D5.out.size D5.out)
          replace F0 := keepA (o := (.cells #[.int .i64 (N : Int), .int .i64 (Q : Int)] 25)) (keepB hd2 F0)
          replace F1 := keepA (o := (.cells #[.int .i64 (N : Int), .int .i64 (Q : Int)] 25)) (keepB hd2 F1)
          replace H0 := keepA (o := (.cells #[.int .i64 (N : Int), .int .i64 (Q : Int)] 25)) (keepB hd2 H0)
          replace H1 := keepA (o := (.cells #[.int .i64 (N : Int), .int .i64 (Q : Int)] 25)) (keepB hd2 H1)
          replace y0 := keepA (o := (.cells #[.int .i64 (N : Int), .int .i64 (Q : Int)] 25)) (keepB hd2 y0)
          replace y1 := keepA (o := (.cells #[.int .i64 (N : Int), .int .i64 (Q : Int)] 25)) (keepB hd2 y1)
          replace z0 := keepA (o := (.cells #[.int .i64 (N : Int), .int .i64 (Q : Int)] 25)) (keepB hd2 z0)
          replace z1 := keepA (o := (.cells #[.int .i64 (N : Int), .int .i64 (Q : Int)] 25)) (keepB hd2 z1)
          have e0 : (d2.alloc (.cells #[.int .i64 (N : Int), .int .i64 (Q : Int)] 25)).cell? ⟨d2.heap.size, 0, none⟩ = some (.int .i64 (N : Int)) := keepN rfl rfl
          have e1 : (d2.alloc (.cells #[.int .i64 (N : Int), .int .i64 (Q : Int)] 25)).cell? ⟨d2.heap.size, 1, none⟩ = some (.int .i64 (Q : Int)) := keepN rfl rfl
          have hsd2 : d1.heap.size < d2.heap.size := by have := hd2.size; simp at this; omega
          clear hd2
          go_wp2_with fail
          refine (HCZ.out _).mono ?_
          rintro e d3 ⟨rfl, hd3⟩
          dsimp only
          have D6 := Lib.hid (D5'.out.trans (hd3.mono D5'.out.size))
          have D6' := Lib.hid (bA (o := (.cells #[.int .i64 (N : Int), .int .i64 (Q : Int)] 25)) D6.out.size D6.out)
          replace F0 := keepA (o := (.cells #[.int .i64 (N : Int), .int .i64 (Q : Int)] 25)) (keepB hd3 F0)
          replace F1 := keepA (o := (.cells #[.int .i64 (N : Int), .int .i64 (Q : Int)] 25)) (keepB hd3 F1)
          replace H0 := keepA (o := (.cells #[.int .i64 (N : Int), .int .i64 (Q : Int)] 25)) (keepB hd3 H0)
          replace H1 := keepA (o := (.cells #[.int .i64 (N : Int), .int .i64 (Q : Int)] 25)) (keepB hd3 H1)
          replace y0 := keepA (o := (.cells #[.int .i64 (N : Int), .int .i64 (Q : Int)] 25)) (keepB hd3 y0)
          replace y1 := keepA (o := (.cells #[.int .i64 (N : Int), .int .i64 (Q : Int)] 25)) (keepB hd3 y1)
          replace z0 := keepA (o := (.cells #[.int .i64 (N : Int), .int .i64 (Q : Int)] 25)) (keepB hd3 z0)
          replace z1 := keepA (o := (.cells #[.int .i64 (N : Int), .int .i64 (Q : Int)] 25)) (keepB hd3 z1)
          replace e0 := keepA (o := (.cells #[.int .i64 (N : Int), .int .i64 (Q : Int)] 25)) (keepB hd3 e0)
          replace e1 := keepA (o := (.cells #[.int .i64 (N : Int), .int .i64 (Q : Int)] 25)) (keepB hd3 e1)
          have q0 : (d3.alloc (.cells #[.int .i64 (N : Int), .int .i64 (Q : Int)] 25)).cell? ⟨d3.heap.size, 0, none⟩ = some (.int .i64 (N : Int)) := keepN rfl rfl
          have q1 : (d3.alloc (.cells #[.int .i64 (N : Int), .int .i64 (Q : Int)] 25)).cell? ⟨d3.heap.size, 1, none⟩ = some (.int .i64 (Q : Int)) := keepN rfl rfl
          have hsd3 : d2.heap.size < d3.heap.size := by have := hd3.size; simp at this; omega
          clear hd3 D4 D4' D5 D5' D6
          go_wp2_with fail
          have hb2 : (M : Int) * (L : Int) ≤ 384 := by
            have hb : M * L ≤ 16 * 24 := Nat.mul_le_mul (by omega) (by omega)
            have hb2 : ((M * L : Nat) : Int) ≤ 384 := by omega
            rw [Int.natCast_mul] at hb2
            exact hb2
          have h0 : (0 : Int) ≤ (M : Int) * (L : Int) := Int.mul_nonneg (by omega) (by omega)
          have hp : (2 : Int) ^ N = (M : Int) := by rw [up2, HMM.out]
          have hval : (szv : Int) * (syv : Int) = 2 * ((M : Int) * (L : Int)) := by
            have hm := HML.out
            rw [hp] at hm
            rw [hm]; exact Int.mul_assoc _ _ _
          have hML : wrap64 (wrap64 (2 * 2 ^ N) * (L : Int)) = (szv : Int) * (syv : Int) := by
            rw [hp, wrap64_small (2 * (M : Int)) (by omega) (by omega), hval, Int.mul_assoc, wrap64_small _ (by omega) (by omega)]
          have hKw : IntKind.i64.wrap ((szv : Int) * (syv : Int)) = (szv : Int) * (syv : Int) := IntWalk.i64_in _ (by rw [hval]; omega)
          have hgtN : decide (A < Q) = false := decide_eq_false (by omega)
          clear hb2 h0 hval hp
          obtain ⟨Kp, hKp⟩ : ∃ Kp : Int, (szv : Int) * (syv : Int) = Kp := ⟨_, rfl⟩
          rw [hML, hKp]
          rw [hKp] at hKw
          have hKw2 : IntKind.i64.wrap ((szv : Int) * (syv : Int)) = Kp := by rw [hKp]; exact hKw
          have hd3z : (d3.alloc (.cells #[.int .i64 (N : Int), .int .i64 (Q : Int)] 25)).heap.size = d3.heap.size + 1 := by simp
          clear hML hKp hKw
          generalize d3.alloc (.cells #[.int .i64 (N : Int), .int .i64 (Q : Int)] 25) = D at *
          go_cut [153] (fun s wx => s = .bool false ∧ Below D.heap.size D wx)
          case first =>
            as_aux_lemma =>
            go_region_held3 (fun w' => w'.cell? ⟨w1.heap.size, 0, none⟩ = some (.int .i64 (N : Int)) ∧ w'.cell? ⟨w1.heap.size, 1, none⟩ = some (.int .i64 (A : Int)) ∧ w'.cell? ⟨w3.heap.size, 0, none⟩ = some (.int .i64 (N : Int)) ∧ w'.cell? ⟨w3.heap.size, 1, none⟩ = some (.int .i64 (Q : Int)) ∧ w'.cell? ⟨h, 0, none⟩ = some (.int .i64 (N : Int)) ∧ w'.cell? ⟨h, 1, none⟩ = some (.int .i64 (Y : Int)) ∧ w'.cell? ⟨d1.heap.size, 0, none⟩ = some (.int .i64 (N : Int)) ∧ w'.cell? ⟨d1.heap.size, 1, none⟩ = some (.int .i64 (Z : Int)) ∧ w'.cell? ⟨d2.heap.size, 0, none⟩ = some (.int .i64 (N : Int)) ∧ w'.cell? ⟨d2.heap.size, 1, none⟩ = some (.int .i64 (Q : Int)) ∧ w'.cell? ⟨d3.heap.size, 0, none⟩ = some (.int .i64 (N : Int)) ∧ w'.cell? ⟨d3.heap.size, 1, none⟩ = some (.int .i64 (Q : Int))) ((first | (go_split_ands; (try dsimp only); (refine ⟨?_, ?_, ?_, ?_, ?_, ?_, ?_, ?_, ?_, ?_, ?_, ?_⟩ <;> (repeat (first | with_reducible assumption | ((with_reducible refine keepU ?_); (with_reducible assumption)) | (with_reducible refine keepD ?_) | (with_reducible refine keepB hr1 ?_) | (with_reducible refine keepB hr2 ?_) | (with_reducible refine keepB hr3 ?_) | (with_reducible refine keepB hr4 ?_) | (with_reducible refine keepB hr5 ?_)))); done) | go_keep))
              (first
                | (with_reducible refine (HAL.out _).mono ?_; rintro e r1 ⟨rfl, hr1⟩; obtain ⟨hc21, hf21⟩ := bcell hr1; have hs21 := hr1.size; try simp only [World.size_drew] at hs21)
                | (with_reducible refine (HZI.out _).mono ?_; rintro e r2 ⟨rfl, hr2⟩; obtain ⟨hc22, hf22⟩ := bcell hr2; have hs22 := hr2.size; try simp only [World.size_drew] at hs22)
                | (with_reducible refine (HSI.out _).mono ?_; rintro e r3 ⟨rfl, hr3⟩; obtain ⟨hc23, hf23⟩ := bcell hr3; have hs23 := hr3.size; try simp only [World.size_drew] at hs23)
                | (with_reducible refine (HLF.out _).mono ?_; rintro e r4 ⟨rfl, hr4⟩; obtain ⟨hc24, hf24⟩ := bcell hr4; have hs24 := hr4.size; try simp only [World.size_drew] at hs24)
                | (with_reducible refine (HLY.out _).mono ?_; rintro e r5 ⟨rfl, hr5⟩; obtain ⟨hc25, hf25⟩ := bcell hr5; have hs25 := hr5.size; try simp only [World.size_drew] at hs25))
            all_goals
              go_wp2_with fail
              go_meet
              exact ⟨by first | rfl | (rw [hgtN]), by (repeat (first | (with_reducible exact Below.refl _ _) | (with_reducible refine bD ?_) | ((with_reducible refine bB hr5 ?_ ?_); (focus (first | omega | (simp; done) | (simp; omega)))) | ((with_reducible refine bB hr4 ?_ ?_); (focus (first | omega | (simp; done) | (simp; omega)))) | ((with_reducible refine bB hr3 ?_ ?_); (focus (first | omega | (simp; done) | (simp; omega)))) | ((with_reducible refine bB hr2 ?_ ?_); (focus (first | omega | (simp; done) | (simp; omega)))) | ((with_reducible refine bB hr1 ?_ ?_); (focus (first | omega | (simp; done) | (simp; omega)))) | ((with_reducible refine bA ?_ ?_); (focus (first | omega | (simp; done) | (simp; omega)))) | ((with_reducible refine bS ?_ ?_); (focus (dsimp only; omega)))))⟩
          case rest =>
            as_aux_lemma =>
            obtain ⟨rfl, hbe⟩ := hcut
            have BX := Lib.hid (D6'.out.trans (hbe.mono D6'.out.size))
            clear F0 F1 H0 H1 y0 y1 z0 z1 e0 e1 q0 q1 HAL HLF HLY HSI HZI hbe HNT HCY HCZ HPB HP1 HML HMM hKw2
            go_wp2_with fail
            -- the end: draws of pairs and numbers
            refine (Draw.alike _ len0 _ (CODE.out.below BX.out)).mono ?_
            rintro e c1 ⟨n2, a2, m2, c2, rfl, hn2, ha2, hm2, hc2, hd1⟩
            have HAI := Lib.hid (Cls.alI n2 a2 m2 c2 ha2 hc2)
            have HAM := Lib.hid (Cls.alM n2 a2 m2 c2)
            generalize aliT n2 a2 m2 c2 = al at HAI HAM
            have E1 := Lib.hid (BX.out.trans (hd1.mono BX.out.size))
            have E2 := Lib.hid (bA (o := .cells #[.int .i64 m2, .int .i64 c2] 25) (by have := E1.out.size; simp; omega) (bA (o := .cells #[.int .i64 n2, .int .i64 a2] 25) E1.out.size E1.out))
            have k0 : ((c1.alloc (.cells #[.int .i64 n2, .int .i64 a2] 25)).alloc (.cells #[.int .i64 m2, .int .i64 c2] 25)).cell? ⟨c1.heap.size, 0, none⟩ = some (.int .i64 n2) := keepA (keepN rfl rfl)
            have k1 : ((c1.alloc (.cells #[.int .i64 n2, .int .i64 a2] 25)).alloc (.cells #[.int .i64 m2, .int .i64 c2] 25)).cell? ⟨c1.heap.size, 1, none⟩ = some (.int .i64 a2) := keepA (keepN rfl rfl)
            have k2 : ((c1.alloc (.cells #[.int .i64 n2, .int .i64 a2] 25)).alloc (.cells #[.int .i64 m2, .int .i64 c2] 25)).cell? ⟨c1.heap.size + 1, 0, none⟩ = some (.int .i64 m2) := keepN (by simp) rfl
            have k3 : ((c1.alloc (.cells #[.int .i64 n2, .int .i64 a2] 25)).alloc (.cells #[.int .i64 m2, .int .i64 c2] 25)).cell? ⟨c1.heap.size + 1, 1, none⟩ = some (.int .i64 c2) := keepN (by simp) rfl
            clear hn2 ha2 hm2 hc2 hd1 E1
            go_wp2_with fail
            generalize (c1.alloc (.cells #[.int .i64 n2, .int .i64 a2] 25)).alloc (.cells #[.int .i64 m2, .int .i64 c2] 25) = C1 at *
            refine (Draw.count4 _ len0 _ (CODE.out.below E2.out)).mono ?_
            rintro e c3 ⟨x3, rfl, _, hd2⟩
            have HTI := Lib.hid (Cls.ctcI x3)
            have HTM := Lib.hid (Cls.ctcM x3)
            generalize ctcT x3 = ct at HTI HTM
            have E3 := Lib.hid (E2.out.trans (hd2.mono E2.out.size))
            replace k0 := keepB hd2 k0
            replace k1 := keepB hd2 k1
            replace k2 := keepB hd2 k2
            replace k3 := keepB hd2 k3
            clear hd2
            go_wp2_with fail
            refine (Draw.perms4 _ len0 _ (CODE.out.below E3.out)).mono ?_
            rintro e c4 ⟨x4, rfl, _, hd3⟩
            have E4 := Lib.hid (E3.out.trans (hd3.mono E3.out.size))
            replace k0 := keepB hd3 k0
            replace k1 := keepB hd3 k1
            replace k2 := keepB hd3 k2
            replace k3 := keepB hd3 k3
            clear hd3
            go_wp2_with fail
            refine (Perm.permI x4 _).mono ?_
            rintro e c5 ⟨⟨v5, us5, rfl, hus5⟩, hd4⟩
            have HU5 := Lib.hid (hus5.own.rd (listP_small x4))
            have E5 := Lib.hid (E4.out.trans (hd4.mono E4.out.size))
            replace k0 := keepB hd4 k0
            replace k1 := keepB hd4 k1
            replace k2 := keepB hd4 k2
            replace k3 := keepB hd4 k3
            clear hd4 hus5
            go_wp2_with fail
            refine (Perm.permM x4 _).mono ?_
            rintro e c6 ⟨⟨v6, rfl, hrd6⟩, hd5⟩
            have HU6 := Lib.hid (HU5.out.below hd5)
            have HV6 := Lib.hid hrd6
            have E6 := Lib.hid (E5.out.trans (hd5.mono E5.out.size))
            replace k0 := keepB hd5 k0
            replace k1 := keepB hd5 k1
            replace k2 := keepB hd5 k2
            replace k3 := keepB hd5 k3
            have hE6 := E6.out.size
            generalize listP x4 = lp at HU6 HV6
            generalize okP x4 = op4 at *
            clear hd5 hrd6 HU5 E2 E3 E4 E5
            go_wp2_with fail
            go_region_held3 (fun w' => w'.cell? ⟨c1.heap.size, 0, none⟩ = some (.int .i64 n2) ∧ w'.cell? ⟨c1.heap.size, 1, none⟩ = some (.int .i64 a2) ∧ w'.cell? ⟨c1.heap.size + 1, 0, none⟩ = some (.int .i64 m2) ∧ w'.cell? ⟨c1.heap.size + 1, 1, none⟩ = some (.int .i64 c2)) ((first | (go_split_ands; (try dsimp only); (refine ⟨?_, ?_, ?_, ?_⟩ <;> (repeat (first | with_reducible assumption | ((with_reducible refine keepU ?_); (with_reducible assumption)) | (with_reducible refine keepD ?_) | (with_reducible refine keepB hb14 ?_) | (with_reducible refine keepB hb15 ?_) | (with_reducible refine keepB hb16 ?_) | (with_reducible refine keepB hb17 ?_) | (with_reducible refine keepB hb18 ?_)))); done) | go_keep))
              (first
                | (with_reducible refine (HAI.out _).mono ?_; rintro e w14 ⟨rfl, hb14⟩; obtain ⟨hc14, hf14⟩ := bcell hb14; have hs14 := hb14.size; try simp only [World.size_drew] at hs14)
                | (with_reducible refine (HAM.out _).mono ?_; rintro e w15 ⟨rfl, hb15⟩; obtain ⟨hc15, hf15⟩ := bcell hb15; have hs15 := hb15.size; try simp only [World.size_drew] at hs15)
                | (with_reducible refine (HTI.out _).mono ?_; rintro e w16 ⟨rfl, hb16⟩; obtain ⟨hc16, hf16⟩ := bcell hb16; have hs16 := hb16.size; try simp only [World.size_drew] at hs16)
                | (with_reducible refine (HTM.out _).mono ?_; rintro e w17 ⟨rfl, hb17⟩; obtain ⟨hc17, hf17⟩ := bcell hb17; have hs17 := hb17.size; try simp only [World.size_drew] at hs17)
                | (with_reducible refine (Lists.sameB _ _ lp _ (HU6.out.below (by (repeat (first | (with_reducible exact Below.refl _ _) | (with_reducible refine bD ?_) | ((with_reducible refine bB hb14 ?_ ?_); (focus (first | omega | (simp; done) | (simp; omega)))) | ((with_reducible refine bB hb15 ?_ ?_); (focus (first | omega | (simp; done) | (simp; omega)))) | ((with_reducible refine bB hb16 ?_ ?_); (focus (first | omega | (simp; done) | (simp; omega)))) | ((with_reducible refine bB hb17 ?_ ?_); (focus (first | omega | (simp; done) | (simp; omega)))))))) (HV6.out.below (by (repeat (first | (with_reducible exact Below.refl _ _) | (with_reducible refine bD ?_) | ((with_reducible refine bB hb14 ?_ ?_); (focus (first | omega | (simp; done) | (simp; omega)))) | ((with_reducible refine bB hb15 ?_ ?_); (focus (first | omega | (simp; done) | (simp; omega)))) | ((with_reducible refine bB hb16 ?_ ?_); (focus (first | omega | (simp; done) | (simp; omega)))) | ((with_reducible refine bB hb17 ?_ ?_); (focus (first | omega | (simp; done) | (simp; omega))))))))).mono ?_; rintro e w18 ⟨rfl, hb18⟩; obtain ⟨hc18, hf18⟩ := bcell hb18; have hs18 := hb18.size; try simp only [World.size_drew] at hs18))
            all_goals
              go_wp2
              go_ret
              exact ⟨by first | rfl | (rw [hgtN]), by (repeat (first | (with_reducible exact E6.out) | (with_reducible refine bD ?_) | ((with_reducible refine bB hb14 ?_ ?_); (focus (first | omega | (simp; done) | (simp; omega)))) | ((with_reducible refine bB hb15 ?_ ?_); (focus (first | omega | (simp; done) | (simp; omega)))) | ((with_reducible refine bB hb16 ?_ ?_); (focus (first | omega | (simp; done) | (simp; omega)))) | ((with_reducible refine bB hb17 ?_ ?_); (focus (first | omega | (simp; done) | (simp; omega)))) | ((with_reducible refine bB hb18 ?_ ?_); (focus (first | omega | (simp; done) | (simp; omega))))))⟩
  · have hgt : ¬ (len0 : Int) ≤ 1048576 := hlen
    have hl : (len0 : Int) ≤ 9223372036854775807 := by
      rcases w0 with ⟨_, rfl, _⟩ | ⟨x, rfl, hlc, hm, _⟩
      · omega
      · unfold maxLen at hm; omega
    have HB := Lib.hid (Big.yes a0 len0 cap0 hgt hl)
    clear w0 hlen hgt hl
    go_enter Try.func3, Try.ntmps3
    go_wp2_with fail
    refine (HB.out _).mono ?_
    rintro e w1 ⟨rfl, rfl⟩
    go_wp2
    go_ret
    exact ⟨rfl, Below.refl _ _⟩

set_option maxRecDepth 100000 in
theorem lifted (os : Os) (started : os.Started) (H : Type) (enc : TypeId × Value → H) :
    ReturnsInHanded {} Try.checked os 3 .any (Rows.fnClassesSpec.pre6 enc Try.prog Try.f3 Rows.fnClassesRow.domain false) (Rows.fnClassesSpec.post enc Try.prog Try.f3 false true false false) := by
  refine returnsInHanded_of_change (C := Try.checked) own started (by kernel_rfl) Try.func3
    (ChangeSpec.witness6 (enc := enc) (C := Try.checked) false ⟨#[], #[.slice none 0 0], []⟩ 8 (by kernel_rfl) (by kernel_rfl) (by kernel_rfl) (by kernel_rfl)) ?_
  intro W base args ds gs before hval0 hW hcnd _
  have hval : ∀ (j : Nat) t v, Try.f3.params[j]? = some t → args[j]? = some v → Value.okWide Try.prog W .any base t v := hval0
  have hW' := hW
  obtain ⟨p, q, hA0, hV, rfl, hfz, hnd⟩ := hW
  have hA : DataW.TrodAll enc Try.prog W 0 (fun _ => true) true Try.f3.params.toList args.toList ds p := hA0
  rw [Try.params3] at hA hval
  obtain ⟨v0, vs0, d0, ds0, p0, q0, hargs, rfl, rfl, h0, r0⟩ := trodAll_cons hA
  obtain ⟨rfl, rfl, rfl⟩ := trodAll_nil r0
  obtain rfl : args = #[v0] := by cases args; simp_all
  obtain ⟨rfl, rfl⟩ := trodVars_none hV
  obtain ⟨a0, len0, cap0, rfl⟩ := okWide_slice Try.underlying22 (hval 0 22 v0 rfl rfl)
  have k0 := h0
  have lt0 : ∀ x ∈ p0, x.block < W.heap.size := by obtain ⟨m, hm⟩ := k0; exact DataW.trod_lt m _ _ _ hm
  obtain ⟨z0, w0⟩ : ∃ zs, IsRow .u8 W a0 len0 cap0 zs := by
    obtain ⟨fuel, hf⟩ := h0
    rcases open_ints Try.underlying22 Try.underlying5 (by kernel_rfl) hf with ⟨hcs, _⟩ | ⟨x, l, c, zs, hcs, _, hl, hm, hz, _, hcell, hwz⟩
    · simp [Value.cells] at hcs
      obtain ⟨rfl, rfl, rfl⟩ := hcs
      exact ⟨[], .inl ⟨rfl, rfl, rfl, rfl⟩⟩
    · simp [Value.cells] at hcs
      obtain ⟨rfl, rfl, rfl⟩ := hcs
      exact ⟨zs, .inr ⟨_, rfl, hl, hm, by simpa using hz, hcell, hwz⟩⟩
  clear hA0 hval0
  simp only [List.append_nil] at hW'
  refine (walk a0 len0 cap0 z0 W w0).mono fun e W' ⟨he, bel⟩ => ?_
  subst he
  exact ⟨_, rfl, _, _, _, [], _, [], hW', trodAll_mk1 (shut_bool Try.underlying4 _), (trodAll_cons_mk (Below.trod laidOut (by kernel_rfl) (of_decide_eq_true (by kernel_rfl)) k0 bel lt0) trodAll_mk0), rfl, bel.frame _, fun h => by cases h⟩

theorem proved : Rows.FnClassesSaid :=
  OpenClaim.holds_of_wide 3 Try.f3 rfl rfl rfl rfl rfl rfl rfl ⟨rfl, rfl, rfl, rfl, rfl⟩ rfl rfl rfl rfl rfl (by kernel_rfl) Try.func3 (by kernel_rfl)
    (of_decide_eq_true (by kernel_rfl)) (by unfold Func.isWrapper; first | (rw [if_pos (by decide +kernel)]; kernel_rfl) | (rw [if_neg (by decide +kernel)]; exact ⟨rfl, rfl⟩))
    (fun os started H enc _ => lifted os started H enc)
end Go.Proofs.Ythdcjldmafhcjaa.fnClasses
