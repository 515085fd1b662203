/-
  For every slice of bytes, the law of certificates returns true: the least certificate is one, its size lies between block sensitivity and CertificateOf, sensitivity is at most block sensitivity, each minimal block is sensitive and meets the least certificate, certificates of inputs with different values meet, and the program answers as the model does. No condition: the law itself asks nothing of slices longer than 1048576 bytes.
-/
import Derived.Test.YtbgjiblfnljigaaRows
import Derived.WalkKit
import Derived.ProofKit
import Derived.OpenShut
import Derived.ShutString
import Derived.Carry
import Derived.Below
import Derived.Lib.SmallJoins
import Derived.Test.YtbgjiblfnljigaaCerE
import Derived.Test.YtbgjiblfnljigaaCerK
import Derived.Test.YtbgjiblfnljigaaSenD
import Derived.Test.YtbgjiblfnljigaaSenQ
import Derived.Test.YtbgjiblfnljigaaSenO
import Derived.Test.YtbgjiblfnljigaaSenB
import Derived.Test.YtbgjiblfnljigaaSenX
import Derived.Deep.RegionHeld3
import Derived.Deep.DeepCutAuto
import Derived.Deep.DrawnRows
import Derived.Deep.QuietTactic
import Derived.BigQuiet
namespace Go.Proofs.Ytbgjiblfnljigaa.fnCertificates
open Go.ChangeShapes Go.WideShapes Go.ChangeAt Go.RowKit
open Go.ChangeMaps (open_string shut_string)
open Go.Joins
set_option linter.unusedVariables false

theorem own : ownKnob Try.prog.godebug = none := by kernel_rfl
theorem laidOut : laidOutB Try.prog = true := by kernel_rfl

open Plain
set_option linter.unusedSimpArgs false
attribute [local go_sem ↓] Go.wp_at_zero Go.wp_at_succ

/-- A slice of integers that came in: it is nil, or it leads to a row of 'cap' cells, the numbers 'zs', each fitting its kind. -/
def IsRow (k : IntKind) (w : World) (a : Option Addr) (len cap : Nat) (zs : List Int) : Prop :=
  (a = none ∧ len = 0 ∧ cap = 0 ∧ zs = []) ∨
  ∃ x, a = some x ∧ len ≤ cap ∧ cap ≤ maxLen ∧ zs.length = cap ∧ (∀ i, i < zs.length → w.cell? (x.add i) = some (.int k (zs.getD i 0))) ∧ ∀ n ∈ zs, (Lit.int k n).wf = true

theorem codeIn {w : World} {a : Option Addr} {len cap : Nat} {zs : List Int} (h : IsRow .u8 w a len cap zs) (hl : (len : Int) ≤ 1048576) : CodeIn w (.slice a len cap) len := by
  refine ⟨a, cap, rfl, by omega, fun h0 => ?_⟩
  rcases h with ⟨_, rfl, _⟩ | ⟨x, rfl, hlc, hm, hz, hcell, hwf⟩
  · omega
  · obtain ⟨ab, off, spot⟩ := x
    have hc := hcell 0 (by omega)
    have hspot : spot = none := by simpa [Addr.add] using World.cell?_spot hc
    subst hspot
    have hlt := World.block_lt_of_cell? w _ hc
    refine ⟨ab, off, rfl, by simpa [Addr.add] using hlt, fun j hj => ?_⟩
    have hj' : j < zs.length := by omega
    have hb := hwf (zs.getD j 0) (by simp [List.getD, hj'])
    have e1 : IntKind.u8.min = 0 := rfl
    have e2 : IntKind.u8.max = 255 := rfl
    simp only [Lit.wf, Bool.and_eq_true, decide_eq_true_eq, e1, e2] at hb
    have hadd : (⟨ab, off, none⟩ : Addr).add j = ⟨ab, off + j, none⟩ := by unfold Addr.add; split <;> simp_all
    exact ⟨zs.getD j 0, hb.1, hb.2, hadd ▸ hcell j hj'⟩

set_option maxRecDepth 100000 in
set_option maxHeartbeats 8000000 in
theorem walk (a0 : Option Addr) (len0 cap0 : Nat) (z0 : List Int) (W : World) (w0 : IsRow .u8 W a0 len0 cap0 z0) :
    Calls Try.prog 10 #[.slice a0 len0 cap0] W fun e w' => e = .returned (.bool true) ∧ Below W.heap.size W w' := by
  by_cases hlen : (len0 : Int) ≤ 1048576
  · have CODE := Lib.hid (codeIn w0 hlen)
    have HB := Lib.hid (Draw.big a0 len0 cap0 (by omega))
    rw [show decide (1048576 < (len0 : Int)) = false from decide_eq_false (by omega)] at HB
    clear w0 hlen
    go_enter Try.func10, Try.ntmps10
    go_wp2_with fail
    refine (HB.out _).mono ?_
    rintro e w1 ⟨rfl, rfl⟩
    go_wp2_with fail
    refine (Draw.cset _ len0 _ CODE.out).mono ?_
    rintro e w1 ⟨n, a, x, rfl, hn, ha, hx, hb1⟩
    have HSI := Lib.hid (CerS.impl n a x ha)
    have HSM := Lib.hid (CerS.model n a x)
    have A64 := Lib.hid ha
    have SC := Lib.hid (setT_cases n a x)
    generalize setT n a x = T at *
    have B1 := Lib.hid (bA hb1.size hb1 (o := .cells #[.int .i64 n, .int .i64 a] 25))
    have f0 : (w1.alloc (.cells #[.int .i64 n, .int .i64 a] 25)).cell? ⟨w1.heap.size, 0, none⟩ = some (.int .i64 n) := keepN rfl rfl
    have f1 : (w1.alloc (.cells #[.int .i64 n, .int .i64 a] 25)).cell? ⟨w1.heap.size, 1, none⟩ = some (.int .i64 a) := keepN rfl rfl
    have hs1 := hb1.size
    clear hn ha hx hb1
    obtain ⟨T1, T2⟩ := T
    go_wp2_with fail
    refine (HSI.out _).mono ?_
    rintro e w2 ⟨rfl, hb2⟩
    have B2 := Lib.hid (B1.out.trans (hb2.mono B1.out.size))
    replace f0 := keepB hb2 f0
    replace f1 := keepB hb2 f1
    have hs2 : w1.heap.size < w2.heap.size := by have := hb2.size; simp at this; omega
    clear hb2 B1
    go_wp2_with fail
    refine (HSM.out _).mono ?_
    rintro e w3 ⟨rfl, hb3⟩
    have B3 := Lib.hid (B2.out.trans (hb3.mono B2.out.size))
    replace f0 := keepB hb3 f0
    replace f1 := keepB hb3 f1
    have hs3 : w1.heap.size < w3.heap.size := by have := hb3.size; omega
    clear hb3 B2 HSI HSM
    go_upto_if 61 with fail
    go_cut [2] (fun s wx => Below W.heap.size W wx)
    case first =>
      as_aux_lemma =>
      rcases SC.out with ⟨N, A, X, hN, hA, hX, hTT⟩ | hno
      · subst hN hA hX
        obtain ⟨k, c, b, s, g, v, l, hT, hCA, hBA, hSA, hMB, hIC, hCO, hVA, hCF, hMT, hIS, hsb, hbc, hcg, hcc, hl⟩ := hTT
        obtain ⟨rfl, rfl⟩ := Prod.mk.inj hT
        have HCA := Lib.hid hCA
        have HBA := Lib.hid hBA
        have HSA := Lib.hid hSA
        have HMB := Lib.hid hMB
        have HIC := Lib.hid hIC
        have HCO := Lib.hid hCO
        have HVA := Lib.hid hVA
        have HCF := Lib.hid hCF
        have HMT := Lib.hid hMT
        have HIS := Lib.hid hIS
        have HLL := Lib.hid hl
        have e1 : decide (b < s) = false := decide_eq_false (by omega)
        have e2 : decide (c < b) = false := decide_eq_false (by omega)
        have e3 : decide (g < c) = false := decide_eq_false (by omega)
        have e4 : (c != c) = false := by simp
        have E1 := Lib.hid e1
        have E2 := Lib.hid e2
        have E3 := Lib.hid e3
        have E4 := Lib.hid e4
        clear hT hCA hBA hSA hMB hIC hCO hVA hCF hMT hIS hsb hbc hcg hcc hl e1 e2 e3 e4 SC A64
        go_wp2_with fail
        refine (HCA.out _).mono ?_
        rintro e w4 ⟨rfl, hb⟩
        have BXw4 := Lib.hid (B3.out.trans (hb.mono B3.out.size))
        replace f0 := keepB hb f0
        replace f1 := keepB hb f1
        have hsw4 : w1.heap.size < w4.heap.size := by have := hb.size; omega
        clear hb B3 hs3
        go_wp2_with fail
        refine (HBA.out _).mono ?_
        rintro e w5 ⟨rfl, hb⟩
        have BXw5 := Lib.hid (BXw4.out.trans (hb.mono BXw4.out.size))
        replace f0 := keepB hb f0
        replace f1 := keepB hb f1
        have hsw5 : w1.heap.size < w5.heap.size := by have := hb.size; omega
        clear hb BXw4 hsw4
        go_wp2_with fail
        refine (HSA.out _).mono ?_
        rintro e w6 ⟨rfl, hb⟩
        have BXw6 := Lib.hid (BXw5.out.trans (hb.mono BXw5.out.size))
        replace f0 := keepB hb f0
        replace f1 := keepB hb f1
        have hsw6 : w1.heap.size < w6.heap.size := by have := hb.size; omega
        clear hb BXw5 hsw5
        go_wp2_with fail
        refine (HMB.out _).mono ?_
        rintro e w7 ⟨⟨u, rfl, hnt⟩, hb⟩
        have BX7 := Lib.hid (BXw6.out.trans (hb.mono BXw6.out.size))
        replace f0 := keepB hb f0
        replace f1 := keepB hb f1
        have hs7 : w1.heap.size < w7.heap.size := by have := hb.size; omega
        have NT7 := Lib.hid hnt
        have E1' := E1.out
        have E2' := E2.out
        have E3' := E3.out
        have E4' := E4.out
        clear hb hnt BXw6 hsw6
        go_wp2_with fail
        refine wp_region_held_drew (S := fun w' => w'.cell? ⟨w1.heap.size, 0, none⟩ = some (.int .i64 (N : Int)) ∧ w'.cell? ⟨w1.heap.size, 1, none⟩ = some (.int .i64 (A : Int))) (by kernel_rfl) ⟨keepD f0, keepD f1⟩ (fun hHeld => ?_)
        refine wpAnyH_take (i := 0) (oi := { dst := some 77, op := _, type := _, pos := _, after := _, guard := _ }) (v := .agg #[.int .i64 (N : Int), .int .i64 (A : Int)]) rfl (by kernel_rfl) (by kernel_rfl) (by kernel_rfl) (fun _ _ _ h => h) (Or.inl ⟨by rfl, ?_⟩) (by assumption) ?_
        · (intro w' hSw; (try dsimp only at hSw); obtain ⟨hS0, hS1⟩ := hSw; go_simp)
        (try simp only [Act.put, List.setIfInBounds_toArray, List.set_cons_zero, List.set_cons_succ])
        refine wpAnyH_take (i := 1) (oi := { dst := some 78, op := _, type := _, pos := _, after := _, guard := _ }) (v := .int .i64 (X : Int)) rfl (by kernel_rfl) (by kernel_rfl) (by kernel_rfl) (fun _ _ _ h => h) (Or.inl ⟨by rfl, ?_⟩) (by assumption) ?_
        · (intro w' hSw; (try dsimp only at hSw); obtain ⟨hS0, hS1⟩ := hSw; go_simp)
        (try simp only [Act.put, List.setIfInBounds_toArray, List.set_cons_zero, List.set_cons_succ])
        refine wpAnyH_take (i := 2) (oi := { dst := some 79, op := _, type := _, pos := _, after := _, guard := _ }) (v := .int .i64 T1) rfl (by kernel_rfl) (by kernel_rfl) (by kernel_rfl) (fun _ _ _ h => h) (Or.inl ⟨by rfl, ?_⟩) (by assumption) ?_
        · (intro w' hSw; (try dsimp only at hSw); obtain ⟨hS0, hS1⟩ := hSw; go_simp)
        (try simp only [Act.put, List.setIfInBounds_toArray, List.set_cons_zero, List.set_cons_succ])
        refine wpAnyH_ready (rs := [3]) (by kernel_rfl) (by simp) ?_
        refine AllReadyH.cons rfl (fun K hK => ?_) AllReadyH.nil
        go_simp
        refine (HIC.out _).mono ?_
        rintro e x1 ⟨rfl, hx1⟩
        go_simp
        refine hK.out _ _ ⟨(keepB hx1 (keepD f0)), (keepB hx1 (keepD f1))⟩ (fun hHx1 => ?_)
        clear hK K hHeld
        (try simp only [Act.put, List.setIfInBounds_toArray, List.set_cons_zero, List.set_cons_succ])
        as_aux_lemma =>
        refine wpAnyH_take (i := 4) (oi := { dst := some 81, op := _, type := _, pos := _, after := _, guard := _ }) (v := .bool false) rfl (by kernel_rfl) (by kernel_rfl) (by kernel_rfl) (fun _ _ _ h => h) (Or.inl ⟨by rfl, ?_⟩) (by assumption) ?_
        · (intro w' hSw; (try dsimp only at hSw); obtain ⟨hS0, hS1⟩ := hSw; go_simp)
        (try simp only [Act.put, List.setIfInBounds_toArray, List.set_cons_zero, List.set_cons_succ])
        refine wpAnyH_take (i := 5) (oi := { dst := some 82, op := _, type := _, pos := _, after := _, guard := _ }) (v := .bool false) rfl (by kernel_rfl) (by kernel_rfl) (by kernel_rfl) (fun _ _ _ h => h) (Or.inl ⟨by rfl, ?_⟩) (by assumption) ?_
        · (intro w' hSw; (try dsimp only at hSw); obtain ⟨hS0, hS1⟩ := hSw; go_simp)
        (try simp only [Act.put, List.setIfInBounds_toArray, List.set_cons_zero, List.set_cons_succ])
        refine wpAnyH_take (i := 6) (oi := { dst := some 83, op := _, type := _, pos := _, after := _, guard := _ }) (v := .int .i64 c) rfl (by kernel_rfl) (by kernel_rfl) (by kernel_rfl) (fun _ _ _ h => h) (Or.inl ⟨by rfl, ?_⟩) (by assumption) ?_
        · (intro w' hSw; (try dsimp only at hSw); obtain ⟨hS0, hS1⟩ := hSw; go_simp)
        (try simp only [Act.put, List.setIfInBounds_toArray, List.set_cons_zero, List.set_cons_succ])
        refine wpAnyH_take (i := 7) (oi := { dst := some 84, op := _, type := _, pos := _, after := _, guard := _ }) (v := .int .i64 T1) rfl (by kernel_rfl) (by kernel_rfl) (by kernel_rfl) (fun _ _ _ h => h) (Or.inl ⟨by rfl, ?_⟩) (by assumption) ?_
        · (intro w' hSw; (try dsimp only at hSw); obtain ⟨hS0, hS1⟩ := hSw; go_simp)
        (try simp only [Act.put, List.setIfInBounds_toArray, List.set_cons_zero, List.set_cons_succ])
        refine wpAnyH_take (i := 8) (oi := { dst := some 85, op := _, type := _, pos := _, after := _, guard := _ }) (v := .agg #[.int .i64 5, .int .i64 T1]) rfl (by kernel_rfl) (by kernel_rfl) (by kernel_rfl) (fun _ _ _ h => h) (Or.inl ⟨by rfl, ?_⟩) (by assumption) ?_
        · (intro w' hSw; (try dsimp only at hSw); obtain ⟨hS0, hS1⟩ := hSw; go_simp)
        (try simp only [Act.put, List.setIfInBounds_toArray, List.set_cons_zero, List.set_cons_succ])
        refine wpAnyH_ready (rs := [9]) (by kernel_rfl) (by simp) ?_
        refine AllReadyH.cons rfl (fun K hK => ?_) AllReadyH.nil
        go_simp
        refine (HCO.out _).mono ?_
        rintro e x2 ⟨rfl, hx2⟩
        go_simp
        refine hK.out _ _ ⟨(keepB hx2 (keepB hx1 (keepD f0))), (keepB hx2 (keepB hx1 (keepD f1)))⟩ (fun hHx2 => ?_)
        clear hK K hHx1
        (try simp only [Act.put, List.setIfInBounds_toArray, List.set_cons_zero, List.set_cons_succ])
        as_aux_lemma =>
        refine wpAnyH_take (i := 10) (oi := { dst := some 87, op := _, type := _, pos := _, after := _, guard := _ }) (v := .bool false) rfl (by kernel_rfl) (by kernel_rfl) (by kernel_rfl) (fun _ _ _ h => h) (Or.inl ⟨by rfl, ?_⟩) (by assumption) ?_
        · (intro w' hSw; (try dsimp only at hSw); obtain ⟨hS0, hS1⟩ := hSw; go_simp)
        (try simp only [Act.put, List.setIfInBounds_toArray, List.set_cons_zero, List.set_cons_succ])
        refine wpAnyH_take (i := 11) (oi := { dst := some 88, op := _, type := _, pos := _, after := _, guard := _ }) (v := .bool false) rfl (by kernel_rfl) (by kernel_rfl) (by kernel_rfl) (fun _ _ _ h => h) (Or.inl ⟨by rfl, ?_⟩) (by assumption) ?_
        · (intro w' hSw; (try dsimp only at hSw); obtain ⟨hS0, hS1⟩ := hSw; go_simp)
        (try simp only [Act.put, List.setIfInBounds_toArray, List.set_cons_zero, List.set_cons_succ])
        refine wpAnyH_take (i := 12) (oi := { dst := some 89, op := _, type := _, pos := _, after := _, guard := _ }) (v := .bool false) rfl (by kernel_rfl) (by kernel_rfl) (by kernel_rfl) (fun _ _ _ h => h) (Or.inl ⟨by rfl, ?_⟩) (by assumption) ?_
        · (intro w' hSw; (try dsimp only at hSw); obtain ⟨hS0, hS1⟩ := hSw; go_simp)
        (try simp only [Act.put, List.setIfInBounds_toArray, List.set_cons_zero, List.set_cons_succ])
        refine wpAnyH_take (i := 13) (oi := { dst := some 90, op := _, type := _, pos := _, after := _, guard := _ }) (v := .int .i64 s) rfl (by kernel_rfl) (by kernel_rfl) (by kernel_rfl) (fun _ _ _ h => h) (Or.inl ⟨by rfl, ?_⟩) (by assumption) ?_
        · (intro w' hSw; (try dsimp only at hSw); obtain ⟨hS0, hS1⟩ := hSw; go_simp)
        (try simp only [Act.put, List.setIfInBounds_toArray, List.set_cons_zero, List.set_cons_succ])
        refine wpAnyH_take (i := 14) (oi := { dst := some 91, op := _, type := _, pos := _, after := _, guard := _ }) (v := .int .i64 b) rfl (by kernel_rfl) (by kernel_rfl) (by kernel_rfl) (fun _ _ _ h => h) (Or.inl ⟨by rfl, ?_⟩) (by assumption) ?_
        · (intro w' hSw; (try dsimp only at hSw); obtain ⟨hS0, hS1⟩ := hSw; go_simp)
        (try simp only [Act.put, List.setIfInBounds_toArray, List.set_cons_zero, List.set_cons_succ])
        refine wpAnyH_take (i := 15) (oi := { dst := some 92, op := _, type := _, pos := _, after := _, guard := _ }) (v := .bool false) rfl (by kernel_rfl) (by kernel_rfl) (by kernel_rfl) (fun _ _ _ h => h) (Or.inl ⟨by rfl, ?_⟩) (by assumption) ?_
        · (intro w' hSw; (try dsimp only at hSw); obtain ⟨hS0, hS1⟩ := hSw; go_simp)
        (try simp only [Act.put, List.setIfInBounds_toArray, List.set_cons_zero, List.set_cons_succ])
        refine wpAnyH_take (i := 16) (oi := { dst := some 93, op := _, type := _, pos := _, after := _, guard := _ }) (v := .bool false) rfl (by kernel_rfl) (by kernel_rfl) (by kernel_rfl) (fun _ _ _ h => h) (Or.inl ⟨by rfl, ?_⟩) (by assumption) ?_
        · (intro w' hSw; (try dsimp only at hSw); obtain ⟨hS0, hS1⟩ := hSw; go_simp)
        (try simp only [Act.put, List.setIfInBounds_toArray, List.set_cons_zero, List.set_cons_succ])
        refine wpAnyH_take (i := 17) (oi := { dst := some 94, op := _, type := _, pos := _, after := _, guard := _ }) (v := .bool false) rfl (by kernel_rfl) (by kernel_rfl) (by kernel_rfl) (fun _ _ _ h => h) (Or.inl ⟨by rfl, ?_⟩) (by assumption) ?_
        · (intro w' hSw; (try dsimp only at hSw); obtain ⟨hS0, hS1⟩ := hSw; go_simp)
        (try simp only [Act.put, List.setIfInBounds_toArray, List.set_cons_zero, List.set_cons_succ])
        refine wpAnyH_take (i := 18) (oi := { dst := some 95, op := _, type := _, pos := _, after := _, guard := _ }) (v := .int .i64 b) rfl (by kernel_rfl) (by kernel_rfl) (by kernel_rfl) (fun _ _ _ h => h) (Or.inl ⟨by rfl, ?_⟩) (by assumption) ?_
        · (intro w' hSw; (try dsimp only at hSw); obtain ⟨hS0, hS1⟩ := hSw; go_simp)
        (try simp only [Act.put, List.setIfInBounds_toArray, List.set_cons_zero, List.set_cons_succ])
        refine wpAnyH_take (i := 19) (oi := { dst := some 96, op := _, type := _, pos := _, after := _, guard := _ }) (v := .int .i64 c) rfl (by kernel_rfl) (by kernel_rfl) (by kernel_rfl) (fun _ _ _ h => h) (Or.inl ⟨by rfl, ?_⟩) (by assumption) ?_
        · (intro w' hSw; (try dsimp only at hSw); obtain ⟨hS0, hS1⟩ := hSw; go_simp)
        (try simp only [Act.put, List.setIfInBounds_toArray, List.set_cons_zero, List.set_cons_succ])
        refine wpAnyH_take (i := 20) (oi := { dst := some 97, op := _, type := _, pos := _, after := _, guard := _ }) (v := .bool false) rfl (by kernel_rfl) (by kernel_rfl) (by kernel_rfl) (fun _ _ _ h => h) (Or.inl ⟨by rfl, ?_⟩) (by assumption) ?_
        · (intro w' hSw; (try dsimp only at hSw); obtain ⟨hS0, hS1⟩ := hSw; go_simp)
        (try simp only [Act.put, List.setIfInBounds_toArray, List.set_cons_zero, List.set_cons_succ])
        refine wpAnyH_take (i := 21) (oi := { dst := some 98, op := _, type := _, pos := _, after := _, guard := _ }) (v := .bool false) rfl (by kernel_rfl) (by kernel_rfl) (by kernel_rfl) (fun _ _ _ h => h) (Or.inl ⟨by rfl, ?_⟩) (by assumption) ?_
        · (intro w' hSw; (try dsimp only at hSw); obtain ⟨hS0, hS1⟩ := hSw; go_simp)
        (try simp only [Act.put, List.setIfInBounds_toArray, List.set_cons_zero, List.set_cons_succ])
        refine wpAnyH_take (i := 22) (oi := { dst := some 99, op := _, type := _, pos := _, after := _, guard := _ }) (v := .bool false) rfl (by kernel_rfl) (by kernel_rfl) (by kernel_rfl) (fun _ _ _ h => h) (Or.inl ⟨by rfl, ?_⟩) (by assumption) ?_
        · (intro w' hSw; (try dsimp only at hSw); obtain ⟨hS0, hS1⟩ := hSw; go_simp)
        (try simp only [Act.put, List.setIfInBounds_toArray, List.set_cons_zero, List.set_cons_succ])
        refine wpAnyH_take (i := 23) (oi := { dst := some 100, op := _, type := _, pos := _, after := _, guard := _ }) (v := .int .i64 c) rfl (by kernel_rfl) (by kernel_rfl) (by kernel_rfl) (fun _ _ _ h => h) (Or.inl ⟨by rfl, ?_⟩) (by assumption) ?_
        · (intro w' hSw; (try dsimp only at hSw); obtain ⟨hS0, hS1⟩ := hSw; go_simp)
        (try simp only [Act.put, List.setIfInBounds_toArray, List.set_cons_zero, List.set_cons_succ])
        refine wpAnyH_take (i := 24) (oi := { dst := some 101, op := _, type := _, pos := _, after := _, guard := _ }) (v := .agg #[.int .i64 (N : Int), .int .i64 (A : Int)]) rfl (by kernel_rfl) (by kernel_rfl) (by kernel_rfl) (fun _ _ _ h => h) (Or.inl ⟨by rfl, ?_⟩) (by assumption) ?_
        · (intro w' hSw; (try dsimp only at hSw); obtain ⟨hS0, hS1⟩ := hSw; go_simp)
        (try simp only [Act.put, List.setIfInBounds_toArray, List.set_cons_zero, List.set_cons_succ])
        refine wpAnyH_take (i := 25) (oi := { dst := some 102, op := _, type := _, pos := _, after := _, guard := _ }) (v := .agg #[.int .i64 (N : Int), .int .i64 (A : Int)]) rfl (by kernel_rfl) (by kernel_rfl) (by kernel_rfl) (fun _ _ _ h => h) (Or.inl ⟨by rfl, ?_⟩) (by assumption) ?_
        · (intro w' hSw; (try dsimp only at hSw); obtain ⟨hS0, hS1⟩ := hSw; go_simp)
        (try simp only [Act.put, List.setIfInBounds_toArray, List.set_cons_zero, List.set_cons_succ])
        refine wpAnyH_take (i := 26) (oi := { dst := some 103, op := _, type := _, pos := _, after := _, guard := _ }) (v := .int .i64 (X : Int)) rfl (by kernel_rfl) (by kernel_rfl) (by kernel_rfl) (fun _ _ _ h => h) (Or.inl ⟨by rfl, ?_⟩) (by assumption) ?_
        · (intro w' hSw; (try dsimp only at hSw); obtain ⟨hS0, hS1⟩ := hSw; go_simp)
        (try simp only [Act.put, List.setIfInBounds_toArray, List.set_cons_zero, List.set_cons_succ])
        refine wpAnyH_ready (rs := [27]) (by kernel_rfl) (by simp) ?_
        refine AllReadyH.cons rfl (fun K hK => ?_) AllReadyH.nil
        go_simp
        refine (HVA.out _).mono ?_
        rintro e x3 ⟨rfl, hx3⟩
        go_simp
        refine hK.out _ _ ⟨(keepB hx3 (keepB hx2 (keepB hx1 (keepD f0)))), (keepB hx3 (keepB hx2 (keepB hx1 (keepD f1))))⟩ (fun hHx3 => ?_)
        clear hK K hHx2
        (try simp only [Act.put, List.setIfInBounds_toArray, List.set_cons_zero, List.set_cons_succ])
        as_aux_lemma =>
        refine wpAnyH_ready (rs := [28]) (by kernel_rfl) (by simp) ?_
        refine AllReadyH.cons rfl (fun K hK => ?_) AllReadyH.nil
        go_simp
        refine (HCF.out _).mono ?_
        rintro e x4 ⟨rfl, hx4⟩
        go_simp
        refine hK.out _ _ ⟨(keepB hx4 (keepB hx3 (keepB hx2 (keepB hx1 (keepD f0))))), (keepB hx4 (keepB hx3 (keepB hx2 (keepB hx1 (keepD f1)))))⟩ (fun hHx4 => ?_)
        clear hK K hHx3
        (try simp only [Act.put, List.setIfInBounds_toArray, List.set_cons_zero, List.set_cons_succ])
        as_aux_lemma =>
        refine wpAnyH_take (i := 29) (oi := { dst := some 106, op := _, type := _, pos := _, after := _, guard := _ }) (v := .bool false) rfl (by kernel_rfl) (by kernel_rfl) (by kernel_rfl) (fun _ _ _ h => h) (Or.inl ⟨by rfl, ?_⟩) (by assumption) ?_
        · (intro w' hSw; (try dsimp only at hSw); obtain ⟨hS0, hS1⟩ := hSw; go_simp)
        (try simp only [Act.put, List.setIfInBounds_toArray, List.set_cons_zero, List.set_cons_succ])
        refine wpAnyH_take (i := 30) (oi := { dst := some 107, op := _, type := _, pos := _, after := _, guard := _ }) (v := .bool false) rfl (by kernel_rfl) (by kernel_rfl) (by kernel_rfl) (fun _ _ _ h => h) (Or.inl ⟨by rfl, ?_⟩) (by assumption) ?_
        · (intro w' hSw; (try dsimp only at hSw); obtain ⟨hS0, hS1⟩ := hSw; go_simp)
        (try simp only [Act.put, List.setIfInBounds_toArray, List.set_cons_zero, List.set_cons_succ])
        refine wpAnyH_take (i := 31) (oi := { dst := some 108, op := _, type := _, pos := _, after := _, guard := _ }) (v := .bool false) rfl (by kernel_rfl) (by kernel_rfl) (by kernel_rfl) (fun _ _ _ h => h) (Or.inl ⟨by rfl, ?_⟩) (by assumption) ?_
        · (intro w' hSw; (try dsimp only at hSw); obtain ⟨hS0, hS1⟩ := hSw; go_simp)
        (try simp only [Act.put, List.setIfInBounds_toArray, List.set_cons_zero, List.set_cons_succ])
        refine wpAnyH_take (i := 32) (oi := { dst := some 109, op := _, type := _, pos := _, after := _, guard := _ }) (v := .agg #[.int .i64 (N : Int), .int .i64 (A : Int)]) rfl (by kernel_rfl) (by kernel_rfl) (by kernel_rfl) (fun _ _ _ h => h) (Or.inl ⟨by rfl, ?_⟩) (by assumption) ?_
        · (intro w' hSw; (try dsimp only at hSw); obtain ⟨hS0, hS1⟩ := hSw; go_simp)
        (try simp only [Act.put, List.setIfInBounds_toArray, List.set_cons_zero, List.set_cons_succ])
        refine wpAnyH_ready (rs := [33]) (by kernel_rfl) (by simp) ?_
        refine AllReadyH.cons rfl (fun K hK => ?_) AllReadyH.nil
        go_simp
        refine (HMT.out _).mono ?_
        rintro e x5 ⟨rfl, hx5⟩
        go_simp
        refine hK.out _ _ ⟨(keepB hx5 (keepB hx4 (keepB hx3 (keepB hx2 (keepB hx1 (keepD f0)))))), (keepB hx5 (keepB hx4 (keepB hx3 (keepB hx2 (keepB hx1 (keepD f1))))))⟩ (fun hHx5 => ?_)
        clear hK K hHx4
        (try simp only [Act.put, List.setIfInBounds_toArray, List.set_cons_zero, List.set_cons_succ])
        as_aux_lemma =>
        refine wpAnyH_take (i := 34) (oi := { dst := some 111, op := _, type := _, pos := _, after := _, guard := _ }) (v := .bool false) rfl (by kernel_rfl) (by kernel_rfl) (by kernel_rfl) (fun _ _ _ h => h) (Or.inl ⟨by rfl, ?_⟩) (by assumption) ?_
        · (intro w' hSw; (try dsimp only at hSw); obtain ⟨hS0, hS1⟩ := hSw; go_simp)
        (try simp only [Act.put, List.setIfInBounds_toArray, List.set_cons_zero, List.set_cons_succ])
        refine wpAnyH_take (i := 35) (oi := { dst := some 112, op := _, type := _, pos := _, after := _, guard := _ }) (v := .bool false) rfl (by kernel_rfl) (by kernel_rfl) (by kernel_rfl) (fun _ _ _ h => h) (Or.inl ⟨by rfl, ?_⟩) (by assumption) ?_
        · (intro w' hSw; (try dsimp only at hSw); obtain ⟨hS0, hS1⟩ := hSw; go_simp)
        (try simp only [Act.put, List.setIfInBounds_toArray, List.set_cons_zero, List.set_cons_succ])
        have f0' := (keepB hx5 (keepB hx4 (keepB hx3 (keepB hx2 (keepB hx1 (keepD f0))))))
        have f1' := (keepB hx5 (keepB hx4 (keepB hx3 (keepB hx2 (keepB hx1 (keepD f1))))))
        have NT8 := Lib.hid (((((NT7.out.below (Below.refl _ _).drew).below hx1).below hx2).below hx3).below hx4 |>.below hx5)
        have BX8 : Hid (Below W.heap.size W x5) := Lib.hid (bB hx5 (bB hx4 (bB hx3 (bB hx2 (bB hx1 (bD BX7.out).size (bD BX7.out)).size (bB hx1 (bD BX7.out).size (bD BX7.out))).size (bB hx2 (bB hx1 (bD BX7.out).size (bD BX7.out)).size (bB hx1 (bD BX7.out).size (bD BX7.out)))).size (bB hx3 (bB hx2 (bB hx1 (bD BX7.out).size (bD BX7.out)).size (bB hx1 (bD BX7.out).size (bD BX7.out))).size (bB hx2 (bB hx1 (bD BX7.out).size (bD BX7.out)).size (bB hx1 (bD BX7.out).size (bD BX7.out))))).size (bB hx4 (bB hx3 (bB hx2 (bB hx1 (bD BX7.out).size (bD BX7.out)).size (bB hx1 (bD BX7.out).size (bD BX7.out))).size (bB hx2 (bB hx1 (bD BX7.out).size (bD BX7.out)).size (bB hx1 (bD BX7.out).size (bD BX7.out)))).size (bB hx3 (bB hx2 (bB hx1 (bD BX7.out).size (bD BX7.out)).size (bB hx1 (bD BX7.out).size (bD BX7.out))).size (bB hx2 (bB hx1 (bD BX7.out).size (bD BX7.out)).size (bB hx1 (bD BX7.out).size (bD BX7.out))))))
        have hs8 : w1.heap.size < x5.heap.size := World.block_lt_of_cell? _ ⟨w1.heap.size, 0, none⟩ f0'
        clear hx1 hx2 hx3 hx4 hx5 hHx5 f0 f1 NT7 BX7 hs7 E1' E2' E3' E4'
        refine wpAnyH_done (by kernel_rfl) ?_ _
        obtain ⟨ad, cap, rfl, hcap, hcap2, hrd⟩ := NT8.out
        have HRD := Lib.hid hrd
        have hlz : (l.length : Int) ≤ 32 := by have := HLL.out; omega
        clear hrd
        go_wp2_with fail
        go_loopw [14] (fun i wr => ∃ j : Nat, i = .int .i64 (j : Int) ∧ j ≤ l.length ∧ wr.cell? ⟨w1.heap.size, 0, none⟩ = some (.int .i64 (N : Int)) ∧ wr.cell? ⟨w1.heap.size, 1, none⟩ = some (.int .i64 (A : Int)) ∧ NtIn wr (.slice ad l.length cap) l ∧ Below W.heap.size W wr) (fun i _ => l.length - (intOf i).toNat)
        case atStart => exact ⟨0, rfl, by omega, f0', f1', NT8.out, BX8.out⟩
        case round =>
          clear f0' f1'
          obtain ⟨j, rfl, hj, f0, f1, hnt, hbel⟩ := hrel
          have NT := Lib.hid hnt
          have BE := Lib.hid hbel
          have hsz : w1.heap.size < wr.heap.size := World.block_lt_of_cell? _ ⟨w1.heap.size, 0, none⟩ f0
          by_cases hlt : j < l.length
          · obtain ⟨_, _, he, _, _, hrd⟩ := hnt
            simp only [Value.slice.injEq, true_and] at he
            obtain ⟨rfl, rfl⟩ := he
            obtain ⟨bk, off, rfl, hbw, hcl⟩ := hrd (by omega)
            have ck := hcl j hlt
            have hjz : (j : Int) < (l.length : Int) := by omega
            obtain ⟨hi1, hi2⟩ := HIS.out j hlt
            have HI1 := Lib.hid hi1
            generalize ((l.getD j 0 : Nat) : Int) = y at *
            clear hcl hrd hbel hi1
            go_wp2_with fail
            go_region_held3 (fun w' => w'.cell? ⟨w1.heap.size, 0, none⟩ = some (.int .i64 (N : Int)) ∧ w'.cell? ⟨w1.heap.size, 1, none⟩ = some (.int .i64 (A : Int)) ∧ w'.cell? ⟨bk, off + j, none⟩ = some (.int .i64 y)) ((first | (go_split_ands; (try dsimp only); (refine ⟨?_, ?_, ?_⟩ <;> (repeat (first | with_reducible assumption | ((with_reducible refine keepU ?_); (with_reducible assumption)) | (with_reducible refine keepD ?_) | (with_reducible refine keepB hb5 ?_)))); done) | go_keep))
              (first | (go_at_call 17; refine (HI1.out _).mono ?_; rintro e w5 ⟨rfl, hb5⟩))
            all_goals
              have g0 := keepB hb5 (keepD f0)
              have g1 := keepB hb5 (keepD f1)
              have NT' := Lib.hid ((NT.out.below (Below.refl _ _).drew).below hb5)
              have BE' := Lib.hid (bB hb5 (bD BE.out).size (bD BE.out))
              go_wp2_with fail
              go_roundw
              case rel => exact ⟨j + 1, by go_num, by omega, g0, g1, NT'.out, BE'.out⟩
              case measure => simp [intOf]; omega
          · go_wp2_with fail
            go_meet
            exact BE.out
      · obtain rfl : T2 = false := hno
        go_wp2_with fail
        go_meet
        exact B3.out
    case rest =>
      as_aux_lemma =>
      have C0 := Lib.hid hcut
      clear hcut f0 f1 SC A64 B3 hs1 hs2 hs3
      go_wp2_with fail
      refine (Draw.mblk _ len0 _ (CODE.out.below C0.out)).mono ?_
      rintro e y1 ⟨n1, a1, x1, rfl, hn, ha, hx, hd⟩
      have HMI := Lib.hid (MinB.impl n1 a1 x1 ha)
      have HMM := Lib.hid (MinB.model n1 a1 x1)
      have HOK := Lib.hid (mblT_ok n1 a1 x1)
      unfold MblOut at HMI HMM
      generalize mblT n1 a1 x1 = ml at *
      generalize decide (setOk n1 a1 x1) = ok at *
      have C1 := Lib.hid (bB hd C0.out.size C0.out)
      have C1' := Lib.hid (bA C1.out.size C1.out (o := .cells #[.int .i64 n1, .int .i64 a1] 25))
      have p15 : (y1.alloc (.cells #[.int .i64 n1, .int .i64 a1] 25)).cell? ⟨y1.heap.size, 0, none⟩ = some (.int .i64 n1) := keepN rfl rfl
      have q15 : (y1.alloc (.cells #[.int .i64 n1, .int .i64 a1] 25)).cell? ⟨y1.heap.size, 1, none⟩ = some (.int .i64 a1) := keepN rfl rfl
      clear hn ha hx hd C0 C1
      go_wp2_with fail
      refine (HMI.out _).mono ?_
      rintro e z1 ⟨⟨vp, rfl, hrow⟩, hb⟩
      have LP := Lib.hid (hrow.ints (by have := HOK.out.1; omega) HOK.out.2)
      clear hrow
      have D1 := Lib.hid (bB hb C1'.out.size C1'.out)
      replace p15 := keepB hb p15
      replace q15 := keepB hb q15
      clear hb C1'
      go_wp2_with fail
      refine (HMM.out _).mono ?_
      rintro e z2 ⟨⟨vq, rfl, hrow⟩, hb⟩
      have LQ := Lib.hid (hrow.ints (by have := HOK.out.1; omega) HOK.out.2)
      clear hrow
      have D2 := Lib.hid (bB hb D1.out.size D1.out)
      clear p15 q15
      replace LP := Lib.hid (LP.out.below hb)
      clear hb D1
      clear HMI HMM HOK
      go_wp2_with fail
      refine (Draw.isCer _ len0 _ (CODE.out.below D2.out)).mono ?_
      rintro e y2 ⟨n2, a2, i2, j2, rfl, hn, ha, hi, hj, hd⟩
      have HCI := Lib.hid (IsCer.impl n2 a2 i2 j2 ha)
      have HCM := Lib.hid (IsCer.model n2 a2 i2 j2)
      generalize isCer n2 a2 i2 j2 = r2 at *
      have C2 := Lib.hid (bB hd D2.out.size D2.out)
      have C2' := Lib.hid (bA C2.out.size C2.out (o := .cells #[.int .i64 n2, .int .i64 a2] 25))
      replace LP := Lib.hid ((LP.out.below hd).below (bA (Nat.le_refl _) (Below.refl _ _) (o := .cells #[.int .i64 n2, .int .i64 a2] 25)))
      replace LQ := Lib.hid ((LQ.out.below hd).below (bA (Nat.le_refl _) (Below.refl _ _) (o := .cells #[.int .i64 n2, .int .i64 a2] 25)))
      have p21 : (y2.alloc (.cells #[.int .i64 n2, .int .i64 a2] 25)).cell? ⟨y2.heap.size, 0, none⟩ = some (.int .i64 n2) := keepN rfl rfl
      have q21 : (y2.alloc (.cells #[.int .i64 n2, .int .i64 a2] 25)).cell? ⟨y2.heap.size, 1, none⟩ = some (.int .i64 a2) := keepN rfl rfl
      clear hn ha hi hj hd D2 C2
      go_wp2_with fail
      refine (Draw.isSen _ len0 _ (CODE.out.below C2'.out)).mono ?_
      rintro e y3 ⟨n3, a3, i3, j3, rfl, hn, ha, hi, hj, hd⟩
      have HSI := Lib.hid (IsSen.impl n3 a3 i3 j3 ha)
      have HSM := Lib.hid (IsSen.model n3 a3 i3 j3)
      generalize isSen n3 a3 i3 j3 = r3 at *
      have C3 := Lib.hid (bB hd C2'.out.size C2'.out)
      have C3' := Lib.hid (bA C3.out.size C3.out (o := .cells #[.int .i64 n3, .int .i64 a3] 25))
      replace p21 := keepA (o := .cells #[.int .i64 n3, .int .i64 a3] 25) (keepB hd p21)
      replace q21 := keepA (o := .cells #[.int .i64 n3, .int .i64 a3] 25) (keepB hd q21)
      replace LP := Lib.hid ((LP.out.below hd).below (bA (Nat.le_refl _) (Below.refl _ _) (o := .cells #[.int .i64 n3, .int .i64 a3] 25)))
      replace LQ := Lib.hid ((LQ.out.below hd).below (bA (Nat.le_refl _) (Below.refl _ _) (o := .cells #[.int .i64 n3, .int .i64 a3] 25)))
      have p24 : (y3.alloc (.cells #[.int .i64 n3, .int .i64 a3] 25)).cell? ⟨y3.heap.size, 0, none⟩ = some (.int .i64 n3) := keepN rfl rfl
      have q24 : (y3.alloc (.cells #[.int .i64 n3, .int .i64 a3] 25)).cell? ⟨y3.heap.size, 1, none⟩ = some (.int .i64 a3) := keepN rfl rfl
      clear hn ha hi hj hd C2' C3
      go_wp2_with fail
      refine (Draw.cof _ len0 _ (CODE.out.below C3'.out)).mono ?_
      rintro e y4 ⟨n4, a4, i4, rfl, hn, ha, hi, hd⟩
      have HOI := Lib.hid (CerO.impl n4 a4 i4 ha)
      have HOM := Lib.hid (CerO.model n4 a4 i4)
      generalize cofT n4 a4 i4 = r4 at *
      have C4 := Lib.hid (bB hd C3'.out.size C3'.out)
      have C4' := Lib.hid (bA C4.out.size C4.out (o := .cells #[.int .i64 n4, .int .i64 a4] 25))
      replace p21 := keepA (o := .cells #[.int .i64 n4, .int .i64 a4] 25) (keepB hd p21)
      replace q21 := keepA (o := .cells #[.int .i64 n4, .int .i64 a4] 25) (keepB hd q21)
      replace p24 := keepA (o := .cells #[.int .i64 n4, .int .i64 a4] 25) (keepB hd p24)
      replace q24 := keepA (o := .cells #[.int .i64 n4, .int .i64 a4] 25) (keepB hd q24)
      replace LP := Lib.hid ((LP.out.below hd).below (bA (Nat.le_refl _) (Below.refl _ _) (o := .cells #[.int .i64 n4, .int .i64 a4] 25)))
      replace LQ := Lib.hid ((LQ.out.below hd).below (bA (Nat.le_refl _) (Below.refl _ _) (o := .cells #[.int .i64 n4, .int .i64 a4] 25)))
      have p27 : (y4.alloc (.cells #[.int .i64 n4, .int .i64 a4] 25)).cell? ⟨y4.heap.size, 0, none⟩ = some (.int .i64 n4) := keepN rfl rfl
      have q27 : (y4.alloc (.cells #[.int .i64 n4, .int .i64 a4] 25)).cell? ⟨y4.heap.size, 1, none⟩ = some (.int .i64 a4) := keepN rfl rfl
      clear hn ha hi hd C3' C4
      go_wp2_with fail
      refine (Draw.bsof _ len0 _ (CODE.out.below C4'.out)).mono ?_
      rintro e y5 ⟨n5, a5, rfl, hn, ha, hd⟩
      have HEI := Lib.hid (SenE.impl n5 a5 ha)
      have HEM := Lib.hid (SenE.model n5 a5)
      have HBI := Lib.hid (BsO.impl n5 a5 ha)
      have HBM := Lib.hid (BsO.model n5 a5)
      have HNI := Lib.hid (SenO.impl n5 a5 ha)
      have HNM := Lib.hid (SenO.model n5 a5)
      generalize edgT n5 a5 = r5 at *
      generalize bsoT n5 a5 = r6 at *
      generalize sofT n5 a5 = r7 at *
      have C5 := Lib.hid (bB hd C4'.out.size C4'.out)
      have C5' := Lib.hid (bA C5.out.size C5.out (o := .cells #[.int .i64 n5, .int .i64 a5] 25))
      replace p21 := keepA (o := .cells #[.int .i64 n5, .int .i64 a5] 25) (keepB hd p21)
      replace q21 := keepA (o := .cells #[.int .i64 n5, .int .i64 a5] 25) (keepB hd q21)
      replace p24 := keepA (o := .cells #[.int .i64 n5, .int .i64 a5] 25) (keepB hd p24)
      replace q24 := keepA (o := .cells #[.int .i64 n5, .int .i64 a5] 25) (keepB hd q24)
      replace p27 := keepA (o := .cells #[.int .i64 n5, .int .i64 a5] 25) (keepB hd p27)
      replace q27 := keepA (o := .cells #[.int .i64 n5, .int .i64 a5] 25) (keepB hd q27)
      replace LP := Lib.hid ((LP.out.below hd).below (bA (Nat.le_refl _) (Below.refl _ _) (o := .cells #[.int .i64 n5, .int .i64 a5] 25)))
      replace LQ := Lib.hid ((LQ.out.below hd).below (bA (Nat.le_refl _) (Below.refl _ _) (o := .cells #[.int .i64 n5, .int .i64 a5] 25)))
      have p29 : (y5.alloc (.cells #[.int .i64 n5, .int .i64 a5] 25)).cell? ⟨y5.heap.size, 0, none⟩ = some (.int .i64 n5) := keepN rfl rfl
      have q29 : (y5.alloc (.cells #[.int .i64 n5, .int .i64 a5] 25)).cell? ⟨y5.heap.size, 1, none⟩ = some (.int .i64 a5) := keepN rfl rfl
      clear hn ha hd C4' C5
      go_wp2_with fail
      refine (Draw.meet _ len0 _ (CODE.out.below C5'.out)).mono ?_
      rintro e y6 ⟨n6, a6, rfl, hn, ha, hd⟩
      have HTI := Lib.hid (Meet.impl n6 a6 ha)
      have HTM := Lib.hid (Meet.model n6 a6)
      generalize isT n6 a6 = r8 at *
      have C6 := Lib.hid (bB hd C5'.out.size C5'.out)
      have C6' := Lib.hid (bA C6.out.size C6.out (o := .cells #[.int .i64 n6, .int .i64 a6] 25))
      replace p21 := keepA (o := .cells #[.int .i64 n6, .int .i64 a6] 25) (keepB hd p21)
      replace q21 := keepA (o := .cells #[.int .i64 n6, .int .i64 a6] 25) (keepB hd q21)
      replace p24 := keepA (o := .cells #[.int .i64 n6, .int .i64 a6] 25) (keepB hd p24)
      replace q24 := keepA (o := .cells #[.int .i64 n6, .int .i64 a6] 25) (keepB hd q24)
      replace p27 := keepA (o := .cells #[.int .i64 n6, .int .i64 a6] 25) (keepB hd p27)
      replace q27 := keepA (o := .cells #[.int .i64 n6, .int .i64 a6] 25) (keepB hd q27)
      replace p29 := keepA (o := .cells #[.int .i64 n6, .int .i64 a6] 25) (keepB hd p29)
      replace q29 := keepA (o := .cells #[.int .i64 n6, .int .i64 a6] 25) (keepB hd q29)
      replace LP := Lib.hid ((LP.out.below hd).below (bA (Nat.le_refl _) (Below.refl _ _) (o := .cells #[.int .i64 n6, .int .i64 a6] 25)))
      replace LQ := Lib.hid ((LQ.out.below hd).below (bA (Nat.le_refl _) (Below.refl _ _) (o := .cells #[.int .i64 n6, .int .i64 a6] 25)))
      have p30 : (y6.alloc (.cells #[.int .i64 n6, .int .i64 a6] 25)).cell? ⟨y6.heap.size, 0, none⟩ = some (.int .i64 n6) := keepN rfl rfl
      have q30 : (y6.alloc (.cells #[.int .i64 n6, .int .i64 a6] 25)).cell? ⟨y6.heap.size, 1, none⟩ = some (.int .i64 a6) := keepN rfl rfl
      clear hn ha hd C5' C6
      go_wp2_with fail
      refine (Draw.bsat _ len0 _ (CODE.out.below C6'.out)).mono ?_
      rintro e y7 ⟨n7, a7, i7, rfl, hn, ha, hi, hd⟩
      have HAI := Lib.hid (BsA.impl n7 a7 i7 ha)
      have HAM := Lib.hid (BsA.model n7 a7 i7)
      have HUI := Lib.hid (SenA.impl n7 a7 i7 ha)
      have HUM := Lib.hid (SenA.model n7 a7 i7)
      have HVI := Lib.hid (CerA.impl n7 a7 i7 ha)
      have HVM := Lib.hid (CerA.model n7 a7 i7)
      generalize bsaT n7 a7 i7 = r9 at *
      generalize senT n7 a7 i7 = r10 at *
      generalize catT n7 a7 i7 = r11 at *
      have C7 := Lib.hid (bB hd C6'.out.size C6'.out)
      have C7' := Lib.hid (bA C7.out.size C7.out (o := .cells #[.int .i64 n7, .int .i64 a7] 25))
      replace p21 := keepA (o := .cells #[.int .i64 n7, .int .i64 a7] 25) (keepB hd p21)
      replace q21 := keepA (o := .cells #[.int .i64 n7, .int .i64 a7] 25) (keepB hd q21)
      replace p24 := keepA (o := .cells #[.int .i64 n7, .int .i64 a7] 25) (keepB hd p24)
      replace q24 := keepA (o := .cells #[.int .i64 n7, .int .i64 a7] 25) (keepB hd q24)
      replace p27 := keepA (o := .cells #[.int .i64 n7, .int .i64 a7] 25) (keepB hd p27)
      replace q27 := keepA (o := .cells #[.int .i64 n7, .int .i64 a7] 25) (keepB hd q27)
      replace p29 := keepA (o := .cells #[.int .i64 n7, .int .i64 a7] 25) (keepB hd p29)
      replace q29 := keepA (o := .cells #[.int .i64 n7, .int .i64 a7] 25) (keepB hd q29)
      replace p30 := keepA (o := .cells #[.int .i64 n7, .int .i64 a7] 25) (keepB hd p30)
      replace q30 := keepA (o := .cells #[.int .i64 n7, .int .i64 a7] 25) (keepB hd q30)
      replace LP := Lib.hid ((LP.out.below hd).below (bA (Nat.le_refl _) (Below.refl _ _) (o := .cells #[.int .i64 n7, .int .i64 a7] 25)))
      replace LQ := Lib.hid ((LQ.out.below hd).below (bA (Nat.le_refl _) (Below.refl _ _) (o := .cells #[.int .i64 n7, .int .i64 a7] 25)))
      have p31 : (y7.alloc (.cells #[.int .i64 n7, .int .i64 a7] 25)).cell? ⟨y7.heap.size, 0, none⟩ = some (.int .i64 n7) := keepN rfl rfl
      have q31 : (y7.alloc (.cells #[.int .i64 n7, .int .i64 a7] 25)).cell? ⟨y7.heap.size, 1, none⟩ = some (.int .i64 a7) := keepN rfl rfl
      clear hn ha hi hd C6' C7
      go_wp2_with fail
      refine (HEI.out _).mono ?_
      rintro e z3 ⟨rfl, hb⟩
      have D3 := Lib.hid (bB hb C7'.out.size C7'.out)
      replace p21 := keepB hb p21
      replace q21 := keepB hb q21
      replace p24 := keepB hb p24
      replace q24 := keepB hb q24
      replace p27 := keepB hb p27
      replace q27 := keepB hb q27
      replace p29 := keepB hb p29
      replace q29 := keepB hb q29
      replace p30 := keepB hb p30
      replace q30 := keepB hb q30
      replace p31 := keepB hb p31
      replace q31 := keepB hb q31
      replace LP := Lib.hid (LP.out.below hb)
      replace LQ := Lib.hid (LQ.out.below hb)
      clear hb C7'
      as_aux_lemma =>
      go_wp2_with fail
      refine wp_region_held_drew (S := fun w' => w'.cell? ⟨y2.heap.size, 0, none⟩ = some (.int .i64 n2) ∧ w'.cell? ⟨y2.heap.size, 1, none⟩ = some (.int .i64 a2) ∧ w'.cell? ⟨y3.heap.size, 0, none⟩ = some (.int .i64 n3) ∧ w'.cell? ⟨y3.heap.size, 1, none⟩ = some (.int .i64 a3) ∧ w'.cell? ⟨y4.heap.size, 0, none⟩ = some (.int .i64 n4) ∧ w'.cell? ⟨y4.heap.size, 1, none⟩ = some (.int .i64 a4) ∧ w'.cell? ⟨y5.heap.size, 0, none⟩ = some (.int .i64 n5) ∧ w'.cell? ⟨y5.heap.size, 1, none⟩ = some (.int .i64 a5) ∧ w'.cell? ⟨y6.heap.size, 0, none⟩ = some (.int .i64 n6) ∧ w'.cell? ⟨y6.heap.size, 1, none⟩ = some (.int .i64 a6) ∧ w'.cell? ⟨y7.heap.size, 0, none⟩ = some (.int .i64 n7) ∧ w'.cell? ⟨y7.heap.size, 1, none⟩ = some (.int .i64 a7)) (by kernel_rfl) ⟨keepD p21, keepD q21, keepD p24, keepD q24, keepD p27, keepD q27, keepD p29, keepD q29, keepD p30, keepD q30, keepD p31, keepD q31⟩ (fun hHeld => ?_)
      have E0 := Lib.hid (bD D3.out)
      clear D3 p21 q21 p24 q24 p27 q27 p29 q29 p30 q30 p31 q31
      refine wpAnyH_take (i := 0) (oi := { dst := some 181, op := _, type := _, pos := _, after := _, guard := _ }) (v := .bool ok) rfl (by kernel_rfl) (by kernel_rfl) (by kernel_rfl) (fun _ _ _ h => h) (Or.inl ⟨by rfl, ?_⟩) (by assumption) ?_
      · (intro w' hSw; (try dsimp only at hSw); obtain ⟨hS0, hS1, hS2, hS3, hS4, hS5, hS6, hS7, hS8, hS9, hS10, hS11⟩ := hSw; go_simp)
      (try simp only [Act.put, List.setIfInBounds_toArray, List.set_cons_zero, List.set_cons_succ])
      refine wpAnyH_take (i := 1) (oi := { dst := some 182, op := _, type := _, pos := _, after := _, guard := _ }) (v := .bool ok) rfl (by kernel_rfl) (by kernel_rfl) (by kernel_rfl) (fun _ _ _ h => h) (Or.inl ⟨by rfl, ?_⟩) (by assumption) ?_
      · (intro w' hSw; (try dsimp only at hSw); obtain ⟨hS0, hS1, hS2, hS3, hS4, hS5, hS6, hS7, hS8, hS9, hS10, hS11⟩ := hSw; go_simp)
      (try simp only [Act.put, List.setIfInBounds_toArray, List.set_cons_zero, List.set_cons_succ])
      refine wpAnyH_take (i := 2) (oi := { dst := some 183, op := _, type := _, pos := _, after := _, guard := _ }) (v := .bool true) rfl (by kernel_rfl) (by kernel_rfl) (by kernel_rfl) (fun _ _ _ h => h) (Or.inl ⟨by rfl, ?_⟩) (by assumption) ?_
      · (intro w' hSw; (try dsimp only at hSw); obtain ⟨hS0, hS1, hS2, hS3, hS4, hS5, hS6, hS7, hS8, hS9, hS10, hS11⟩ := hSw; go_simp)
      (try simp only [Act.put, List.setIfInBounds_toArray, List.set_cons_zero, List.set_cons_succ])
      refine wpAnyH_take (i := 3) (oi := { dst := some 184, op := _, type := _, pos := _, after := _, guard := _ }) (v := .bool true) rfl (by kernel_rfl) (by kernel_rfl) (by kernel_rfl) (fun _ _ _ h => h) (Or.inl ⟨by rfl, ?_⟩) (by assumption) ?_
      · (intro w' hSw; (try dsimp only at hSw); obtain ⟨hS0, hS1, hS2, hS3, hS4, hS5, hS6, hS7, hS8, hS9, hS10, hS11⟩ := hSw; go_simp)
      (try simp only [Act.put, List.setIfInBounds_toArray, List.set_cons_zero, List.set_cons_succ])
      refine wpAnyH_take (i := 4) (oi := { dst := some 185, op := _, type := _, pos := _, after := _, guard := _ }) (v := vp) rfl (by kernel_rfl) (by kernel_rfl) (by kernel_rfl) (fun _ _ _ h => h) (Or.inl ⟨by rfl, ?_⟩) (by assumption) ?_
      · (intro w' hSw; (try dsimp only at hSw); obtain ⟨hS0, hS1, hS2, hS3, hS4, hS5, hS6, hS7, hS8, hS9, hS10, hS11⟩ := hSw; go_simp)
      (try simp only [Act.put, List.setIfInBounds_toArray, List.set_cons_zero, List.set_cons_succ])
      refine wpAnyH_take (i := 5) (oi := { dst := some 186, op := _, type := _, pos := _, after := _, guard := _ }) (v := vq) rfl (by kernel_rfl) (by kernel_rfl) (by kernel_rfl) (fun _ _ _ h => h) (Or.inl ⟨by rfl, ?_⟩) (by assumption) ?_
      · (intro w' hSw; (try dsimp only at hSw); obtain ⟨hS0, hS1, hS2, hS3, hS4, hS5, hS6, hS7, hS8, hS9, hS10, hS11⟩ := hSw; go_simp)
      (try simp only [Act.put, List.setIfInBounds_toArray, List.set_cons_zero, List.set_cons_succ])
      refine wpAnyH_ready (rs := [6]) (by kernel_rfl) (by simp) ?_
      refine AllReadyH.cons rfl (fun K hK => ?_) AllReadyH.nil
      go_simp
      refine (Ints.sameZ _ _ ml _ (LP.out.below (Below.refl _ _).drew) (LQ.out.below (Below.refl _ _).drew)).mono ?_
      rintro e x1 ⟨rfl, m1, hm1⟩
      have hx : Below z3.drew.heap.size z3.drew x1 := hm1 ▸ below_drewN (Below.refl _ _) m1
      clear hm1
      go_simp
      refine hK.out _ _ (by obtain ⟨g0, g1, g2, g3, g4, g5, g6, g7, g8, g9, g10, g11⟩ := hHeld; exact ⟨keepB hx g0, keepB hx g1, keepB hx g2, keepB hx g3, keepB hx g4, keepB hx g5, keepB hx g6, keepB hx g7, keepB hx g8, keepB hx g9, keepB hx g10, keepB hx g11⟩) (fun hHx1 => ?_)
      have E1 := Lib.hid (bB hx E0.out.size E0.out)
      clear hK K hHeld hx E0 LP LQ
      (try simp only [Act.put, List.setIfInBounds_toArray, List.set_cons_zero, List.set_cons_succ])
      as_aux_lemma =>
      refine wpAnyH_take (i := 7) (oi := { dst := some 188, op := _, type := _, pos := _, after := _, guard := _ }) (v := .bool true) rfl (by kernel_rfl) (by kernel_rfl) (by kernel_rfl) (fun _ _ _ h => h) (Or.inl ⟨by rfl, ?_⟩) (by assumption) ?_
      · (intro w' hSw; (try dsimp only at hSw); obtain ⟨hS0, hS1, hS2, hS3, hS4, hS5, hS6, hS7, hS8, hS9, hS10, hS11⟩ := hSw; go_simp)
      (try simp only [Act.put, List.setIfInBounds_toArray, List.set_cons_zero, List.set_cons_succ])
      refine wpAnyH_take (i := 8) (oi := { dst := some 189, op := _, type := _, pos := _, after := _, guard := _ }) (v := .bool true) rfl (by kernel_rfl) (by kernel_rfl) (by kernel_rfl) (fun _ _ _ h => h) (Or.inl ⟨by rfl, ?_⟩) (by assumption) ?_
      · (intro w' hSw; (try dsimp only at hSw); obtain ⟨hS0, hS1, hS2, hS3, hS4, hS5, hS6, hS7, hS8, hS9, hS10, hS11⟩ := hSw; go_simp)
      (try simp only [Act.put, List.setIfInBounds_toArray, List.set_cons_zero, List.set_cons_succ])
      refine wpAnyH_take (i := 9) (oi := { dst := some 190, op := _, type := _, pos := _, after := _, guard := _ }) (v := .agg #[.int .i64 n2, .int .i64 a2]) rfl (by kernel_rfl) (by kernel_rfl) (by kernel_rfl) (fun _ _ _ h => h) (Or.inl ⟨by rfl, ?_⟩) (by assumption) ?_
      · (intro w' hSw; (try dsimp only at hSw); obtain ⟨hS0, hS1, hS2, hS3, hS4, hS5, hS6, hS7, hS8, hS9, hS10, hS11⟩ := hSw; go_simp)
      (try simp only [Act.put, List.setIfInBounds_toArray, List.set_cons_zero, List.set_cons_succ])
      refine wpAnyH_take (i := 10) (oi := { dst := some 191, op := _, type := _, pos := _, after := _, guard := _ }) (v := .int .i64 i2) rfl (by kernel_rfl) (by kernel_rfl) (by kernel_rfl) (fun _ _ _ h => h) (Or.inl ⟨by rfl, ?_⟩) (by assumption) ?_
      · (intro w' hSw; (try dsimp only at hSw); obtain ⟨hS0, hS1, hS2, hS3, hS4, hS5, hS6, hS7, hS8, hS9, hS10, hS11⟩ := hSw; go_simp)
      (try simp only [Act.put, List.setIfInBounds_toArray, List.set_cons_zero, List.set_cons_succ])
      refine wpAnyH_take (i := 11) (oi := { dst := some 192, op := _, type := _, pos := _, after := _, guard := _ }) (v := .int .i64 j2) rfl (by kernel_rfl) (by kernel_rfl) (by kernel_rfl) (fun _ _ _ h => h) (Or.inl ⟨by rfl, ?_⟩) (by assumption) ?_
      · (intro w' hSw; (try dsimp only at hSw); obtain ⟨hS0, hS1, hS2, hS3, hS4, hS5, hS6, hS7, hS8, hS9, hS10, hS11⟩ := hSw; go_simp)
      (try simp only [Act.put, List.setIfInBounds_toArray, List.set_cons_zero, List.set_cons_succ])
      refine wpAnyH_take (i := 13) (oi := { dst := some 194, op := _, type := _, pos := _, after := _, guard := _ }) (v := .agg #[.int .i64 n2, .int .i64 a2]) rfl (by kernel_rfl) (by kernel_rfl) (by kernel_rfl) (fun _ _ _ h => h) (Or.inl ⟨by rfl, ?_⟩) (by assumption) ?_
      · (intro w' hSw; (try dsimp only at hSw); obtain ⟨hS0, hS1, hS2, hS3, hS4, hS5, hS6, hS7, hS8, hS9, hS10, hS11⟩ := hSw; go_simp)
      (try simp only [Act.put, List.setIfInBounds_toArray, List.set_cons_zero, List.set_cons_succ])
      refine wpAnyH_take (i := 14) (oi := { dst := some 195, op := _, type := _, pos := _, after := _, guard := _ }) (v := .int .i64 i2) rfl (by kernel_rfl) (by kernel_rfl) (by kernel_rfl) (fun _ _ _ h => h) (Or.inl ⟨by rfl, ?_⟩) (by assumption) ?_
      · (intro w' hSw; (try dsimp only at hSw); obtain ⟨hS0, hS1, hS2, hS3, hS4, hS5, hS6, hS7, hS8, hS9, hS10, hS11⟩ := hSw; go_simp)
      (try simp only [Act.put, List.setIfInBounds_toArray, List.set_cons_zero, List.set_cons_succ])
      refine wpAnyH_take (i := 15) (oi := { dst := some 196, op := _, type := _, pos := _, after := _, guard := _ }) (v := .int .i64 j2) rfl (by kernel_rfl) (by kernel_rfl) (by kernel_rfl) (fun _ _ _ h => h) (Or.inl ⟨by rfl, ?_⟩) (by assumption) ?_
      · (intro w' hSw; (try dsimp only at hSw); obtain ⟨hS0, hS1, hS2, hS3, hS4, hS5, hS6, hS7, hS8, hS9, hS10, hS11⟩ := hSw; go_simp)
      (try simp only [Act.put, List.setIfInBounds_toArray, List.set_cons_zero, List.set_cons_succ])
      refine wpAnyH_ready (rs := [12]) (by kernel_rfl) (by simp) ?_
      refine AllReadyH.cons rfl (fun K hK => ?_) AllReadyH.nil
      go_simp
      refine (HCI.out _).mono ?_
      rintro e x2 ⟨rfl, hx⟩
      go_simp
      refine hK.out _ _ (by obtain ⟨g0, g1, g2, g3, g4, g5, g6, g7, g8, g9, g10, g11⟩ := hHx1; exact ⟨keepB hx g0, keepB hx g1, keepB hx g2, keepB hx g3, keepB hx g4, keepB hx g5, keepB hx g6, keepB hx g7, keepB hx g8, keepB hx g9, keepB hx g10, keepB hx g11⟩) (fun hHx2 => ?_)
      have E2 := Lib.hid (bB hx E1.out.size E1.out)
      clear hK K hHx1 hx E1
      (try simp only [Act.put, List.setIfInBounds_toArray, List.set_cons_zero, List.set_cons_succ])
      as_aux_lemma =>
      refine wpAnyH_ready (rs := [16]) (by kernel_rfl) (by simp) ?_
      refine AllReadyH.cons rfl (fun K hK => ?_) AllReadyH.nil
      go_simp
      refine (HCM.out _).mono ?_
      rintro e x3 ⟨rfl, hx⟩
      go_simp
      refine hK.out _ _ (by obtain ⟨g0, g1, g2, g3, g4, g5, g6, g7, g8, g9, g10, g11⟩ := hHx2; exact ⟨keepB hx g0, keepB hx g1, keepB hx g2, keepB hx g3, keepB hx g4, keepB hx g5, keepB hx g6, keepB hx g7, keepB hx g8, keepB hx g9, keepB hx g10, keepB hx g11⟩) (fun hHx3 => ?_)
      have E3 := Lib.hid (bB hx E2.out.size E2.out)
      clear hK K hHx2 hx E2
      (try simp only [Act.put, List.setIfInBounds_toArray, List.set_cons_zero, List.set_cons_succ])
      as_aux_lemma =>
      refine wpAnyH_take (i := 17) (oi := { dst := some 198, op := _, type := _, pos := _, after := _, guard := _ }) (v := .bool true) rfl (by kernel_rfl) (by kernel_rfl) (by kernel_rfl) (fun _ _ _ h => h) (Or.inl ⟨by rfl, ?_⟩) (by assumption) ?_
      · (intro w' hSw; (try dsimp only at hSw); obtain ⟨hS0, hS1, hS2, hS3, hS4, hS5, hS6, hS7, hS8, hS9, hS10, hS11⟩ := hSw; go_simp)
      (try simp only [Act.put, List.setIfInBounds_toArray, List.set_cons_zero, List.set_cons_succ])
      refine wpAnyH_take (i := 18) (oi := { dst := some 199, op := _, type := _, pos := _, after := _, guard := _ }) (v := .bool true) rfl (by kernel_rfl) (by kernel_rfl) (by kernel_rfl) (fun _ _ _ h => h) (Or.inl ⟨by rfl, ?_⟩) (by assumption) ?_
      · (intro w' hSw; (try dsimp only at hSw); obtain ⟨hS0, hS1, hS2, hS3, hS4, hS5, hS6, hS7, hS8, hS9, hS10, hS11⟩ := hSw; go_simp)
      (try simp only [Act.put, List.setIfInBounds_toArray, List.set_cons_zero, List.set_cons_succ])
      refine wpAnyH_take (i := 19) (oi := { dst := some 200, op := _, type := _, pos := _, after := _, guard := _ }) (v := .bool true) rfl (by kernel_rfl) (by kernel_rfl) (by kernel_rfl) (fun _ _ _ h => h) (Or.inl ⟨by rfl, ?_⟩) (by assumption) ?_
      · (intro w' hSw; (try dsimp only at hSw); obtain ⟨hS0, hS1, hS2, hS3, hS4, hS5, hS6, hS7, hS8, hS9, hS10, hS11⟩ := hSw; go_simp)
      (try simp only [Act.put, List.setIfInBounds_toArray, List.set_cons_zero, List.set_cons_succ])
      refine wpAnyH_take (i := 20) (oi := { dst := some 201, op := _, type := _, pos := _, after := _, guard := _ }) (v := .agg #[.int .i64 n3, .int .i64 a3]) rfl (by kernel_rfl) (by kernel_rfl) (by kernel_rfl) (fun _ _ _ h => h) (Or.inl ⟨by rfl, ?_⟩) (by assumption) ?_
      · (intro w' hSw; (try dsimp only at hSw); obtain ⟨hS0, hS1, hS2, hS3, hS4, hS5, hS6, hS7, hS8, hS9, hS10, hS11⟩ := hSw; go_simp)
      (try simp only [Act.put, List.setIfInBounds_toArray, List.set_cons_zero, List.set_cons_succ])
      refine wpAnyH_take (i := 21) (oi := { dst := some 202, op := _, type := _, pos := _, after := _, guard := _ }) (v := .int .i64 i3) rfl (by kernel_rfl) (by kernel_rfl) (by kernel_rfl) (fun _ _ _ h => h) (Or.inl ⟨by rfl, ?_⟩) (by assumption) ?_
      · (intro w' hSw; (try dsimp only at hSw); obtain ⟨hS0, hS1, hS2, hS3, hS4, hS5, hS6, hS7, hS8, hS9, hS10, hS11⟩ := hSw; go_simp)
      (try simp only [Act.put, List.setIfInBounds_toArray, List.set_cons_zero, List.set_cons_succ])
      refine wpAnyH_take (i := 22) (oi := { dst := some 203, op := _, type := _, pos := _, after := _, guard := _ }) (v := .int .i64 j3) rfl (by kernel_rfl) (by kernel_rfl) (by kernel_rfl) (fun _ _ _ h => h) (Or.inl ⟨by rfl, ?_⟩) (by assumption) ?_
      · (intro w' hSw; (try dsimp only at hSw); obtain ⟨hS0, hS1, hS2, hS3, hS4, hS5, hS6, hS7, hS8, hS9, hS10, hS11⟩ := hSw; go_simp)
      (try simp only [Act.put, List.setIfInBounds_toArray, List.set_cons_zero, List.set_cons_succ])
      refine wpAnyH_take (i := 24) (oi := { dst := some 205, op := _, type := _, pos := _, after := _, guard := _ }) (v := .agg #[.int .i64 n3, .int .i64 a3]) rfl (by kernel_rfl) (by kernel_rfl) (by kernel_rfl) (fun _ _ _ h => h) (Or.inl ⟨by rfl, ?_⟩) (by assumption) ?_
      · (intro w' hSw; (try dsimp only at hSw); obtain ⟨hS0, hS1, hS2, hS3, hS4, hS5, hS6, hS7, hS8, hS9, hS10, hS11⟩ := hSw; go_simp)
      (try simp only [Act.put, List.setIfInBounds_toArray, List.set_cons_zero, List.set_cons_succ])
      refine wpAnyH_take (i := 25) (oi := { dst := some 206, op := _, type := _, pos := _, after := _, guard := _ }) (v := .int .i64 i3) rfl (by kernel_rfl) (by kernel_rfl) (by kernel_rfl) (fun _ _ _ h => h) (Or.inl ⟨by rfl, ?_⟩) (by assumption) ?_
      · (intro w' hSw; (try dsimp only at hSw); obtain ⟨hS0, hS1, hS2, hS3, hS4, hS5, hS6, hS7, hS8, hS9, hS10, hS11⟩ := hSw; go_simp)
      (try simp only [Act.put, List.setIfInBounds_toArray, List.set_cons_zero, List.set_cons_succ])
      refine wpAnyH_take (i := 26) (oi := { dst := some 207, op := _, type := _, pos := _, after := _, guard := _ }) (v := .int .i64 j3) rfl (by kernel_rfl) (by kernel_rfl) (by kernel_rfl) (fun _ _ _ h => h) (Or.inl ⟨by rfl, ?_⟩) (by assumption) ?_
      · (intro w' hSw; (try dsimp only at hSw); obtain ⟨hS0, hS1, hS2, hS3, hS4, hS5, hS6, hS7, hS8, hS9, hS10, hS11⟩ := hSw; go_simp)
      (try simp only [Act.put, List.setIfInBounds_toArray, List.set_cons_zero, List.set_cons_succ])
      refine wpAnyH_ready (rs := [23]) (by kernel_rfl) (by simp) ?_
      refine AllReadyH.cons rfl (fun K hK => ?_) AllReadyH.nil
      go_simp
      refine (HSI.out _).mono ?_
      rintro e x4 ⟨rfl, hx⟩
      go_simp
      refine hK.out _ _ (by obtain ⟨g0, g1, g2, g3, g4, g5, g6, g7, g8, g9, g10, g11⟩ := hHx3; exact ⟨keepB hx g0, keepB hx g1, keepB hx g2, keepB hx g3, keepB hx g4, keepB hx g5, keepB hx g6, keepB hx g7, keepB hx g8, keepB hx g9, keepB hx g10, keepB hx g11⟩) (fun hHx4 => ?_)
      have E4 := Lib.hid (bB hx E3.out.size E3.out)
      clear hK K hHx3 hx E3
      (try simp only [Act.put, List.setIfInBounds_toArray, List.set_cons_zero, List.set_cons_succ])
      as_aux_lemma =>
      refine wpAnyH_ready (rs := [27]) (by kernel_rfl) (by simp) ?_
      refine AllReadyH.cons rfl (fun K hK => ?_) AllReadyH.nil
      go_simp
      refine (HSM.out _).mono ?_
      rintro e x5 ⟨rfl, hx⟩
      go_simp
      refine hK.out _ _ (by obtain ⟨g0, g1, g2, g3, g4, g5, g6, g7, g8, g9, g10, g11⟩ := hHx4; exact ⟨keepB hx g0, keepB hx g1, keepB hx g2, keepB hx g3, keepB hx g4, keepB hx g5, keepB hx g6, keepB hx g7, keepB hx g8, keepB hx g9, keepB hx g10, keepB hx g11⟩) (fun hHx5 => ?_)
      have E5 := Lib.hid (bB hx E4.out.size E4.out)
      clear hK K hHx4 hx E4
      (try simp only [Act.put, List.setIfInBounds_toArray, List.set_cons_zero, List.set_cons_succ])
      as_aux_lemma =>
      refine wpAnyH_take (i := 28) (oi := { dst := some 209, op := _, type := _, pos := _, after := _, guard := _ }) (v := .bool true) rfl (by kernel_rfl) (by kernel_rfl) (by kernel_rfl) (fun _ _ _ h => h) (Or.inl ⟨by rfl, ?_⟩) (by assumption) ?_
      · (intro w' hSw; (try dsimp only at hSw); obtain ⟨hS0, hS1, hS2, hS3, hS4, hS5, hS6, hS7, hS8, hS9, hS10, hS11⟩ := hSw; go_simp)
      (try simp only [Act.put, List.setIfInBounds_toArray, List.set_cons_zero, List.set_cons_succ])
      refine wpAnyH_take (i := 29) (oi := { dst := some 210, op := _, type := _, pos := _, after := _, guard := _ }) (v := .bool true) rfl (by kernel_rfl) (by kernel_rfl) (by kernel_rfl) (fun _ _ _ h => h) (Or.inl ⟨by rfl, ?_⟩) (by assumption) ?_
      · (intro w' hSw; (try dsimp only at hSw); obtain ⟨hS0, hS1, hS2, hS3, hS4, hS5, hS6, hS7, hS8, hS9, hS10, hS11⟩ := hSw; go_simp)
      (try simp only [Act.put, List.setIfInBounds_toArray, List.set_cons_zero, List.set_cons_succ])
      refine wpAnyH_take (i := 30) (oi := { dst := some 211, op := _, type := _, pos := _, after := _, guard := _ }) (v := .bool true) rfl (by kernel_rfl) (by kernel_rfl) (by kernel_rfl) (fun _ _ _ h => h) (Or.inl ⟨by rfl, ?_⟩) (by assumption) ?_
      · (intro w' hSw; (try dsimp only at hSw); obtain ⟨hS0, hS1, hS2, hS3, hS4, hS5, hS6, hS7, hS8, hS9, hS10, hS11⟩ := hSw; go_simp)
      (try simp only [Act.put, List.setIfInBounds_toArray, List.set_cons_zero, List.set_cons_succ])
      refine wpAnyH_take (i := 31) (oi := { dst := some 212, op := _, type := _, pos := _, after := _, guard := _ }) (v := .agg #[.int .i64 n4, .int .i64 a4]) rfl (by kernel_rfl) (by kernel_rfl) (by kernel_rfl) (fun _ _ _ h => h) (Or.inl ⟨by rfl, ?_⟩) (by assumption) ?_
      · (intro w' hSw; (try dsimp only at hSw); obtain ⟨hS0, hS1, hS2, hS3, hS4, hS5, hS6, hS7, hS8, hS9, hS10, hS11⟩ := hSw; go_simp)
      (try simp only [Act.put, List.setIfInBounds_toArray, List.set_cons_zero, List.set_cons_succ])
      refine wpAnyH_take (i := 32) (oi := { dst := some 213, op := _, type := _, pos := _, after := _, guard := _ }) (v := .int .i64 i4) rfl (by kernel_rfl) (by kernel_rfl) (by kernel_rfl) (fun _ _ _ h => h) (Or.inl ⟨by rfl, ?_⟩) (by assumption) ?_
      · (intro w' hSw; (try dsimp only at hSw); obtain ⟨hS0, hS1, hS2, hS3, hS4, hS5, hS6, hS7, hS8, hS9, hS10, hS11⟩ := hSw; go_simp)
      (try simp only [Act.put, List.setIfInBounds_toArray, List.set_cons_zero, List.set_cons_succ])
      refine wpAnyH_take (i := 34) (oi := { dst := some 215, op := _, type := _, pos := _, after := _, guard := _ }) (v := .agg #[.int .i64 n4, .int .i64 a4]) rfl (by kernel_rfl) (by kernel_rfl) (by kernel_rfl) (fun _ _ _ h => h) (Or.inl ⟨by rfl, ?_⟩) (by assumption) ?_
      · (intro w' hSw; (try dsimp only at hSw); obtain ⟨hS0, hS1, hS2, hS3, hS4, hS5, hS6, hS7, hS8, hS9, hS10, hS11⟩ := hSw; go_simp)
      (try simp only [Act.put, List.setIfInBounds_toArray, List.set_cons_zero, List.set_cons_succ])
      refine wpAnyH_take (i := 35) (oi := { dst := some 216, op := _, type := _, pos := _, after := _, guard := _ }) (v := .int .i64 i4) rfl (by kernel_rfl) (by kernel_rfl) (by kernel_rfl) (fun _ _ _ h => h) (Or.inl ⟨by rfl, ?_⟩) (by assumption) ?_
      · (intro w' hSw; (try dsimp only at hSw); obtain ⟨hS0, hS1, hS2, hS3, hS4, hS5, hS6, hS7, hS8, hS9, hS10, hS11⟩ := hSw; go_simp)
      (try simp only [Act.put, List.setIfInBounds_toArray, List.set_cons_zero, List.set_cons_succ])
      refine wpAnyH_ready (rs := [33]) (by kernel_rfl) (by simp) ?_
      refine AllReadyH.cons rfl (fun K hK => ?_) AllReadyH.nil
      go_simp
      refine (HOI.out _).mono ?_
      rintro e x6 ⟨rfl, hx⟩
      go_simp
      refine hK.out _ _ (by obtain ⟨g0, g1, g2, g3, g4, g5, g6, g7, g8, g9, g10, g11⟩ := hHx5; exact ⟨keepB hx g0, keepB hx g1, keepB hx g2, keepB hx g3, keepB hx g4, keepB hx g5, keepB hx g6, keepB hx g7, keepB hx g8, keepB hx g9, keepB hx g10, keepB hx g11⟩) (fun hHx6 => ?_)
      have E6 := Lib.hid (bB hx E5.out.size E5.out)
      clear hK K hHx5 hx E5
      (try simp only [Act.put, List.setIfInBounds_toArray, List.set_cons_zero, List.set_cons_succ])
      as_aux_lemma =>
      refine wpAnyH_ready (rs := [36]) (by kernel_rfl) (by simp) ?_
      refine AllReadyH.cons rfl (fun K hK => ?_) AllReadyH.nil
      go_simp
      refine (HOM.out _).mono ?_
      rintro e x7 ⟨rfl, hx⟩
      go_simp
      refine hK.out _ _ (by obtain ⟨g0, g1, g2, g3, g4, g5, g6, g7, g8, g9, g10, g11⟩ := hHx6; exact ⟨keepB hx g0, keepB hx g1, keepB hx g2, keepB hx g3, keepB hx g4, keepB hx g5, keepB hx g6, keepB hx g7, keepB hx g8, keepB hx g9, keepB hx g10, keepB hx g11⟩) (fun hHx7 => ?_)
      have E7 := Lib.hid (bB hx E6.out.size E6.out)
      clear hK K hHx6 hx E6
      (try simp only [Act.put, List.setIfInBounds_toArray, List.set_cons_zero, List.set_cons_succ])
      as_aux_lemma =>
      refine wpAnyH_take (i := 37) (oi := { dst := some 218, op := _, type := _, pos := _, after := _, guard := _ }) (v := .bool true) rfl (by kernel_rfl) (by kernel_rfl) (by kernel_rfl) (fun _ _ _ h => h) (Or.inl ⟨by rfl, ?_⟩) (by assumption) ?_
      · (intro w' hSw; (try dsimp only at hSw); obtain ⟨hS0, hS1, hS2, hS3, hS4, hS5, hS6, hS7, hS8, hS9, hS10, hS11⟩ := hSw; go_simp)
      (try simp only [Act.put, List.setIfInBounds_toArray, List.set_cons_zero, List.set_cons_succ])
      refine wpAnyH_take (i := 38) (oi := { dst := some 219, op := _, type := _, pos := _, after := _, guard := _ }) (v := .bool true) rfl (by kernel_rfl) (by kernel_rfl) (by kernel_rfl) (fun _ _ _ h => h) (Or.inl ⟨by rfl, ?_⟩) (by assumption) ?_
      · (intro w' hSw; (try dsimp only at hSw); obtain ⟨hS0, hS1, hS2, hS3, hS4, hS5, hS6, hS7, hS8, hS9, hS10, hS11⟩ := hSw; go_simp)
      (try simp only [Act.put, List.setIfInBounds_toArray, List.set_cons_zero, List.set_cons_succ])
      refine wpAnyH_take (i := 39) (oi := { dst := some 220, op := _, type := _, pos := _, after := _, guard := _ }) (v := .bool true) rfl (by kernel_rfl) (by kernel_rfl) (by kernel_rfl) (fun _ _ _ h => h) (Or.inl ⟨by rfl, ?_⟩) (by assumption) ?_
      · (intro w' hSw; (try dsimp only at hSw); obtain ⟨hS0, hS1, hS2, hS3, hS4, hS5, hS6, hS7, hS8, hS9, hS10, hS11⟩ := hSw; go_simp)
      (try simp only [Act.put, List.setIfInBounds_toArray, List.set_cons_zero, List.set_cons_succ])
      refine wpAnyH_take (i := 40) (oi := { dst := some 221, op := _, type := _, pos := _, after := _, guard := _ }) (v := .agg #[.int .i64 n5, .int .i64 a5]) rfl (by kernel_rfl) (by kernel_rfl) (by kernel_rfl) (fun _ _ _ h => h) (Or.inl ⟨by rfl, ?_⟩) (by assumption) ?_
      · (intro w' hSw; (try dsimp only at hSw); obtain ⟨hS0, hS1, hS2, hS3, hS4, hS5, hS6, hS7, hS8, hS9, hS10, hS11⟩ := hSw; go_simp)
      (try simp only [Act.put, List.setIfInBounds_toArray, List.set_cons_zero, List.set_cons_succ])
      refine wpAnyH_take (i := 42) (oi := { dst := some 223, op := _, type := _, pos := _, after := _, guard := _ }) (v := .agg #[.int .i64 n5, .int .i64 a5]) rfl (by kernel_rfl) (by kernel_rfl) (by kernel_rfl) (fun _ _ _ h => h) (Or.inl ⟨by rfl, ?_⟩) (by assumption) ?_
      · (intro w' hSw; (try dsimp only at hSw); obtain ⟨hS0, hS1, hS2, hS3, hS4, hS5, hS6, hS7, hS8, hS9, hS10, hS11⟩ := hSw; go_simp)
      (try simp only [Act.put, List.setIfInBounds_toArray, List.set_cons_zero, List.set_cons_succ])
      refine wpAnyH_ready (rs := [41]) (by kernel_rfl) (by simp) ?_
      refine AllReadyH.cons rfl (fun K hK => ?_) AllReadyH.nil
      go_simp
      refine (HBI.out _).mono ?_
      rintro e x8 ⟨rfl, hx⟩
      go_simp
      refine hK.out _ _ (by obtain ⟨g0, g1, g2, g3, g4, g5, g6, g7, g8, g9, g10, g11⟩ := hHx7; exact ⟨keepB hx g0, keepB hx g1, keepB hx g2, keepB hx g3, keepB hx g4, keepB hx g5, keepB hx g6, keepB hx g7, keepB hx g8, keepB hx g9, keepB hx g10, keepB hx g11⟩) (fun hHx8 => ?_)
      have E8 := Lib.hid (bB hx E7.out.size E7.out)
      clear hK K hHx7 hx E7
      (try simp only [Act.put, List.setIfInBounds_toArray, List.set_cons_zero, List.set_cons_succ])
      as_aux_lemma =>
      refine wpAnyH_ready (rs := [43]) (by kernel_rfl) (by simp) ?_
      refine AllReadyH.cons rfl (fun K hK => ?_) AllReadyH.nil
      go_simp
      refine (HBM.out _).mono ?_
      rintro e x9 ⟨rfl, hx⟩
      go_simp
      refine hK.out _ _ (by obtain ⟨g0, g1, g2, g3, g4, g5, g6, g7, g8, g9, g10, g11⟩ := hHx8; exact ⟨keepB hx g0, keepB hx g1, keepB hx g2, keepB hx g3, keepB hx g4, keepB hx g5, keepB hx g6, keepB hx g7, keepB hx g8, keepB hx g9, keepB hx g10, keepB hx g11⟩) (fun hHx9 => ?_)
      have E9 := Lib.hid (bB hx E8.out.size E8.out)
      clear hK K hHx8 hx E8
      (try simp only [Act.put, List.setIfInBounds_toArray, List.set_cons_zero, List.set_cons_succ])
      as_aux_lemma =>
      refine wpAnyH_take (i := 44) (oi := { dst := some 225, op := _, type := _, pos := _, after := _, guard := _ }) (v := .bool true) rfl (by kernel_rfl) (by kernel_rfl) (by kernel_rfl) (fun _ _ _ h => h) (Or.inl ⟨by rfl, ?_⟩) (by assumption) ?_
      · (intro w' hSw; (try dsimp only at hSw); obtain ⟨hS0, hS1, hS2, hS3, hS4, hS5, hS6, hS7, hS8, hS9, hS10, hS11⟩ := hSw; go_simp)
      (try simp only [Act.put, List.setIfInBounds_toArray, List.set_cons_zero, List.set_cons_succ])
      refine wpAnyH_take (i := 45) (oi := { dst := some 226, op := _, type := _, pos := _, after := _, guard := _ }) (v := .bool true) rfl (by kernel_rfl) (by kernel_rfl) (by kernel_rfl) (fun _ _ _ h => h) (Or.inl ⟨by rfl, ?_⟩) (by assumption) ?_
      · (intro w' hSw; (try dsimp only at hSw); obtain ⟨hS0, hS1, hS2, hS3, hS4, hS5, hS6, hS7, hS8, hS9, hS10, hS11⟩ := hSw; go_simp)
      (try simp only [Act.put, List.setIfInBounds_toArray, List.set_cons_zero, List.set_cons_succ])
      refine wpAnyH_take (i := 46) (oi := { dst := some 227, op := _, type := _, pos := _, after := _, guard := _ }) (v := .bool true) rfl (by kernel_rfl) (by kernel_rfl) (by kernel_rfl) (fun _ _ _ h => h) (Or.inl ⟨by rfl, ?_⟩) (by assumption) ?_
      · (intro w' hSw; (try dsimp only at hSw); obtain ⟨hS0, hS1, hS2, hS3, hS4, hS5, hS6, hS7, hS8, hS9, hS10, hS11⟩ := hSw; go_simp)
      (try simp only [Act.put, List.setIfInBounds_toArray, List.set_cons_zero, List.set_cons_succ])
      refine wpAnyH_take (i := 47) (oi := { dst := some 228, op := _, type := _, pos := _, after := _, guard := _ }) (v := .agg #[.int .i64 n5, .int .i64 a5]) rfl (by kernel_rfl) (by kernel_rfl) (by kernel_rfl) (fun _ _ _ h => h) (Or.inl ⟨by rfl, ?_⟩) (by assumption) ?_
      · (intro w' hSw; (try dsimp only at hSw); obtain ⟨hS0, hS1, hS2, hS3, hS4, hS5, hS6, hS7, hS8, hS9, hS10, hS11⟩ := hSw; go_simp)
      (try simp only [Act.put, List.setIfInBounds_toArray, List.set_cons_zero, List.set_cons_succ])
      refine wpAnyH_take (i := 49) (oi := { dst := some 230, op := _, type := _, pos := _, after := _, guard := _ }) (v := .agg #[.int .i64 n5, .int .i64 a5]) rfl (by kernel_rfl) (by kernel_rfl) (by kernel_rfl) (fun _ _ _ h => h) (Or.inl ⟨by rfl, ?_⟩) (by assumption) ?_
      · (intro w' hSw; (try dsimp only at hSw); obtain ⟨hS0, hS1, hS2, hS3, hS4, hS5, hS6, hS7, hS8, hS9, hS10, hS11⟩ := hSw; go_simp)
      (try simp only [Act.put, List.setIfInBounds_toArray, List.set_cons_zero, List.set_cons_succ])
      refine wpAnyH_ready (rs := [48]) (by kernel_rfl) (by simp) ?_
      refine AllReadyH.cons rfl (fun K hK => ?_) AllReadyH.nil
      go_simp
      refine (HNI.out _).mono ?_
      rintro e x10 ⟨rfl, hx⟩
      go_simp
      refine hK.out _ _ (by obtain ⟨g0, g1, g2, g3, g4, g5, g6, g7, g8, g9, g10, g11⟩ := hHx9; exact ⟨keepB hx g0, keepB hx g1, keepB hx g2, keepB hx g3, keepB hx g4, keepB hx g5, keepB hx g6, keepB hx g7, keepB hx g8, keepB hx g9, keepB hx g10, keepB hx g11⟩) (fun hHx10 => ?_)
      have E10 := Lib.hid (bB hx E9.out.size E9.out)
      clear hK K hHx9 hx E9
      (try simp only [Act.put, List.setIfInBounds_toArray, List.set_cons_zero, List.set_cons_succ])
      as_aux_lemma =>
      refine wpAnyH_ready (rs := [50]) (by kernel_rfl) (by simp) ?_
      refine AllReadyH.cons rfl (fun K hK => ?_) AllReadyH.nil
      go_simp
      refine (HNM.out _).mono ?_
      rintro e x11 ⟨rfl, hx⟩
      go_simp
      refine hK.out _ _ (by obtain ⟨g0, g1, g2, g3, g4, g5, g6, g7, g8, g9, g10, g11⟩ := hHx10; exact ⟨keepB hx g0, keepB hx g1, keepB hx g2, keepB hx g3, keepB hx g4, keepB hx g5, keepB hx g6, keepB hx g7, keepB hx g8, keepB hx g9, keepB hx g10, keepB hx g11⟩) (fun hHx11 => ?_)
      have E11 := Lib.hid (bB hx E10.out.size E10.out)
      clear hK K hHx10 hx E10
      (try simp only [Act.put, List.setIfInBounds_toArray, List.set_cons_zero, List.set_cons_succ])
      as_aux_lemma =>
      refine wpAnyH_take (i := 51) (oi := { dst := some 232, op := _, type := _, pos := _, after := _, guard := _ }) (v := .bool true) rfl (by kernel_rfl) (by kernel_rfl) (by kernel_rfl) (fun _ _ _ h => h) (Or.inl ⟨by rfl, ?_⟩) (by assumption) ?_
      · (intro w' hSw; (try dsimp only at hSw); obtain ⟨hS0, hS1, hS2, hS3, hS4, hS5, hS6, hS7, hS8, hS9, hS10, hS11⟩ := hSw; go_simp)
      (try simp only [Act.put, List.setIfInBounds_toArray, List.set_cons_zero, List.set_cons_succ])
      refine wpAnyH_take (i := 52) (oi := { dst := some 233, op := _, type := _, pos := _, after := _, guard := _ }) (v := .bool true) rfl (by kernel_rfl) (by kernel_rfl) (by kernel_rfl) (fun _ _ _ h => h) (Or.inl ⟨by rfl, ?_⟩) (by assumption) ?_
      · (intro w' hSw; (try dsimp only at hSw); obtain ⟨hS0, hS1, hS2, hS3, hS4, hS5, hS6, hS7, hS8, hS9, hS10, hS11⟩ := hSw; go_simp)
      (try simp only [Act.put, List.setIfInBounds_toArray, List.set_cons_zero, List.set_cons_succ])
      refine wpAnyH_take (i := 53) (oi := { dst := some 234, op := _, type := _, pos := _, after := _, guard := _ }) (v := .bool true) rfl (by kernel_rfl) (by kernel_rfl) (by kernel_rfl) (fun _ _ _ h => h) (Or.inl ⟨by rfl, ?_⟩) (by assumption) ?_
      · (intro w' hSw; (try dsimp only at hSw); obtain ⟨hS0, hS1, hS2, hS3, hS4, hS5, hS6, hS7, hS8, hS9, hS10, hS11⟩ := hSw; go_simp)
      (try simp only [Act.put, List.setIfInBounds_toArray, List.set_cons_zero, List.set_cons_succ])
      refine wpAnyH_take (i := 54) (oi := { dst := some 235, op := _, type := _, pos := _, after := _, guard := _ }) (v := .int .i64 r5) rfl (by kernel_rfl) (by kernel_rfl) (by kernel_rfl) (fun _ _ _ h => h) (Or.inl ⟨by rfl, ?_⟩) (by assumption) ?_
      · (intro w' hSw; (try dsimp only at hSw); obtain ⟨hS0, hS1, hS2, hS3, hS4, hS5, hS6, hS7, hS8, hS9, hS10, hS11⟩ := hSw; go_simp)
      (try simp only [Act.put, List.setIfInBounds_toArray, List.set_cons_zero, List.set_cons_succ])
      refine wpAnyH_take (i := 55) (oi := { dst := some 236, op := _, type := _, pos := _, after := _, guard := _ }) (v := .agg #[.int .i64 n5, .int .i64 a5]) rfl (by kernel_rfl) (by kernel_rfl) (by kernel_rfl) (fun _ _ _ h => h) (Or.inl ⟨by rfl, ?_⟩) (by assumption) ?_
      · (intro w' hSw; (try dsimp only at hSw); obtain ⟨hS0, hS1, hS2, hS3, hS4, hS5, hS6, hS7, hS8, hS9, hS10, hS11⟩ := hSw; go_simp)
      (try simp only [Act.put, List.setIfInBounds_toArray, List.set_cons_zero, List.set_cons_succ])
      refine wpAnyH_ready (rs := [56]) (by kernel_rfl) (by simp) ?_
      refine AllReadyH.cons rfl (fun K hK => ?_) AllReadyH.nil
      go_simp
      refine (HEM.out _).mono ?_
      rintro e x12 ⟨rfl, hx⟩
      go_simp
      refine hK.out _ _ (by obtain ⟨g0, g1, g2, g3, g4, g5, g6, g7, g8, g9, g10, g11⟩ := hHx11; exact ⟨keepB hx g0, keepB hx g1, keepB hx g2, keepB hx g3, keepB hx g4, keepB hx g5, keepB hx g6, keepB hx g7, keepB hx g8, keepB hx g9, keepB hx g10, keepB hx g11⟩) (fun hHx12 => ?_)
      have E12 := Lib.hid (bB hx E11.out.size E11.out)
      clear hK K hHx11 hx E11
      (try simp only [Act.put, List.setIfInBounds_toArray, List.set_cons_zero, List.set_cons_succ])
      as_aux_lemma =>
      refine wpAnyH_take (i := 57) (oi := { dst := some 238, op := _, type := _, pos := _, after := _, guard := _ }) (v := .bool true) rfl (by kernel_rfl) (by kernel_rfl) (by kernel_rfl) (fun _ _ _ h => h) (Or.inl ⟨by rfl, ?_⟩) (by assumption) ?_
      · (intro w' hSw; (try dsimp only at hSw); obtain ⟨hS0, hS1, hS2, hS3, hS4, hS5, hS6, hS7, hS8, hS9, hS10, hS11⟩ := hSw; go_simp)
      (try simp only [Act.put, List.setIfInBounds_toArray, List.set_cons_zero, List.set_cons_succ])
      refine wpAnyH_take (i := 58) (oi := { dst := some 239, op := _, type := _, pos := _, after := _, guard := _ }) (v := .bool true) rfl (by kernel_rfl) (by kernel_rfl) (by kernel_rfl) (fun _ _ _ h => h) (Or.inl ⟨by rfl, ?_⟩) (by assumption) ?_
      · (intro w' hSw; (try dsimp only at hSw); obtain ⟨hS0, hS1, hS2, hS3, hS4, hS5, hS6, hS7, hS8, hS9, hS10, hS11⟩ := hSw; go_simp)
      (try simp only [Act.put, List.setIfInBounds_toArray, List.set_cons_zero, List.set_cons_succ])
      refine wpAnyH_take (i := 59) (oi := { dst := some 240, op := _, type := _, pos := _, after := _, guard := _ }) (v := .bool true) rfl (by kernel_rfl) (by kernel_rfl) (by kernel_rfl) (fun _ _ _ h => h) (Or.inl ⟨by rfl, ?_⟩) (by assumption) ?_
      · (intro w' hSw; (try dsimp only at hSw); obtain ⟨hS0, hS1, hS2, hS3, hS4, hS5, hS6, hS7, hS8, hS9, hS10, hS11⟩ := hSw; go_simp)
      (try simp only [Act.put, List.setIfInBounds_toArray, List.set_cons_zero, List.set_cons_succ])
      refine wpAnyH_take (i := 60) (oi := { dst := some 241, op := _, type := _, pos := _, after := _, guard := _ }) (v := .agg #[.int .i64 n6, .int .i64 a6]) rfl (by kernel_rfl) (by kernel_rfl) (by kernel_rfl) (fun _ _ _ h => h) (Or.inl ⟨by rfl, ?_⟩) (by assumption) ?_
      · (intro w' hSw; (try dsimp only at hSw); obtain ⟨hS0, hS1, hS2, hS3, hS4, hS5, hS6, hS7, hS8, hS9, hS10, hS11⟩ := hSw; go_simp)
      (try simp only [Act.put, List.setIfInBounds_toArray, List.set_cons_zero, List.set_cons_succ])
      refine wpAnyH_take (i := 62) (oi := { dst := some 243, op := _, type := _, pos := _, after := _, guard := _ }) (v := .agg #[.int .i64 n6, .int .i64 a6]) rfl (by kernel_rfl) (by kernel_rfl) (by kernel_rfl) (fun _ _ _ h => h) (Or.inl ⟨by rfl, ?_⟩) (by assumption) ?_
      · (intro w' hSw; (try dsimp only at hSw); obtain ⟨hS0, hS1, hS2, hS3, hS4, hS5, hS6, hS7, hS8, hS9, hS10, hS11⟩ := hSw; go_simp)
      (try simp only [Act.put, List.setIfInBounds_toArray, List.set_cons_zero, List.set_cons_succ])
      refine wpAnyH_ready (rs := [61]) (by kernel_rfl) (by simp) ?_
      refine AllReadyH.cons rfl (fun K hK => ?_) AllReadyH.nil
      go_simp
      refine (HTI.out _).mono ?_
      rintro e x13 ⟨rfl, hx⟩
      go_simp
      refine hK.out _ _ (by obtain ⟨g0, g1, g2, g3, g4, g5, g6, g7, g8, g9, g10, g11⟩ := hHx12; exact ⟨keepB hx g0, keepB hx g1, keepB hx g2, keepB hx g3, keepB hx g4, keepB hx g5, keepB hx g6, keepB hx g7, keepB hx g8, keepB hx g9, keepB hx g10, keepB hx g11⟩) (fun hHx13 => ?_)
      have E13 := Lib.hid (bB hx E12.out.size E12.out)
      clear hK K hHx12 hx E12
      (try simp only [Act.put, List.setIfInBounds_toArray, List.set_cons_zero, List.set_cons_succ])
      as_aux_lemma =>
      refine wpAnyH_ready (rs := [63]) (by kernel_rfl) (by simp) ?_
      refine AllReadyH.cons rfl (fun K hK => ?_) AllReadyH.nil
      go_simp
      refine (HTM.out _).mono ?_
      rintro e x14 ⟨rfl, hx⟩
      go_simp
      refine hK.out _ _ (by obtain ⟨g0, g1, g2, g3, g4, g5, g6, g7, g8, g9, g10, g11⟩ := hHx13; exact ⟨keepB hx g0, keepB hx g1, keepB hx g2, keepB hx g3, keepB hx g4, keepB hx g5, keepB hx g6, keepB hx g7, keepB hx g8, keepB hx g9, keepB hx g10, keepB hx g11⟩) (fun hHx14 => ?_)
      have E14 := Lib.hid (bB hx E13.out.size E13.out)
      clear hK K hHx13 hx E13
      (try simp only [Act.put, List.setIfInBounds_toArray, List.set_cons_zero, List.set_cons_succ])
      as_aux_lemma =>
      refine wpAnyH_take (i := 64) (oi := { dst := some 245, op := _, type := _, pos := _, after := _, guard := _ }) (v := .bool true) rfl (by kernel_rfl) (by kernel_rfl) (by kernel_rfl) (fun _ _ _ h => h) (Or.inl ⟨by rfl, ?_⟩) (by assumption) ?_
      · (intro w' hSw; (try dsimp only at hSw); obtain ⟨hS0, hS1, hS2, hS3, hS4, hS5, hS6, hS7, hS8, hS9, hS10, hS11⟩ := hSw; go_simp)
      (try simp only [Act.put, List.setIfInBounds_toArray, List.set_cons_zero, List.set_cons_succ])
      refine wpAnyH_take (i := 65) (oi := { dst := some 246, op := _, type := _, pos := _, after := _, guard := _ }) (v := .bool true) rfl (by kernel_rfl) (by kernel_rfl) (by kernel_rfl) (fun _ _ _ h => h) (Or.inl ⟨by rfl, ?_⟩) (by assumption) ?_
      · (intro w' hSw; (try dsimp only at hSw); obtain ⟨hS0, hS1, hS2, hS3, hS4, hS5, hS6, hS7, hS8, hS9, hS10, hS11⟩ := hSw; go_simp)
      (try simp only [Act.put, List.setIfInBounds_toArray, List.set_cons_zero, List.set_cons_succ])
      refine wpAnyH_take (i := 66) (oi := { dst := some 247, op := _, type := _, pos := _, after := _, guard := _ }) (v := .bool true) rfl (by kernel_rfl) (by kernel_rfl) (by kernel_rfl) (fun _ _ _ h => h) (Or.inl ⟨by rfl, ?_⟩) (by assumption) ?_
      · (intro w' hSw; (try dsimp only at hSw); obtain ⟨hS0, hS1, hS2, hS3, hS4, hS5, hS6, hS7, hS8, hS9, hS10, hS11⟩ := hSw; go_simp)
      (try simp only [Act.put, List.setIfInBounds_toArray, List.set_cons_zero, List.set_cons_succ])
      refine wpAnyH_take (i := 67) (oi := { dst := some 248, op := _, type := _, pos := _, after := _, guard := _ }) (v := .agg #[.int .i64 n7, .int .i64 a7]) rfl (by kernel_rfl) (by kernel_rfl) (by kernel_rfl) (fun _ _ _ h => h) (Or.inl ⟨by rfl, ?_⟩) (by assumption) ?_
      · (intro w' hSw; (try dsimp only at hSw); obtain ⟨hS0, hS1, hS2, hS3, hS4, hS5, hS6, hS7, hS8, hS9, hS10, hS11⟩ := hSw; go_simp)
      (try simp only [Act.put, List.setIfInBounds_toArray, List.set_cons_zero, List.set_cons_succ])
      refine wpAnyH_take (i := 68) (oi := { dst := some 249, op := _, type := _, pos := _, after := _, guard := _ }) (v := .int .i64 i7) rfl (by kernel_rfl) (by kernel_rfl) (by kernel_rfl) (fun _ _ _ h => h) (Or.inl ⟨by rfl, ?_⟩) (by assumption) ?_
      · (intro w' hSw; (try dsimp only at hSw); obtain ⟨hS0, hS1, hS2, hS3, hS4, hS5, hS6, hS7, hS8, hS9, hS10, hS11⟩ := hSw; go_simp)
      (try simp only [Act.put, List.setIfInBounds_toArray, List.set_cons_zero, List.set_cons_succ])
      refine wpAnyH_take (i := 70) (oi := { dst := some 251, op := _, type := _, pos := _, after := _, guard := _ }) (v := .agg #[.int .i64 n7, .int .i64 a7]) rfl (by kernel_rfl) (by kernel_rfl) (by kernel_rfl) (fun _ _ _ h => h) (Or.inl ⟨by rfl, ?_⟩) (by assumption) ?_
      · (intro w' hSw; (try dsimp only at hSw); obtain ⟨hS0, hS1, hS2, hS3, hS4, hS5, hS6, hS7, hS8, hS9, hS10, hS11⟩ := hSw; go_simp)
      (try simp only [Act.put, List.setIfInBounds_toArray, List.set_cons_zero, List.set_cons_succ])
      refine wpAnyH_take (i := 71) (oi := { dst := some 252, op := _, type := _, pos := _, after := _, guard := _ }) (v := .int .i64 i7) rfl (by kernel_rfl) (by kernel_rfl) (by kernel_rfl) (fun _ _ _ h => h) (Or.inl ⟨by rfl, ?_⟩) (by assumption) ?_
      · (intro w' hSw; (try dsimp only at hSw); obtain ⟨hS0, hS1, hS2, hS3, hS4, hS5, hS6, hS7, hS8, hS9, hS10, hS11⟩ := hSw; go_simp)
      (try simp only [Act.put, List.setIfInBounds_toArray, List.set_cons_zero, List.set_cons_succ])
      refine wpAnyH_ready (rs := [69]) (by kernel_rfl) (by simp) ?_
      refine AllReadyH.cons rfl (fun K hK => ?_) AllReadyH.nil
      go_simp
      refine (HAI.out _).mono ?_
      rintro e x15 ⟨rfl, hx⟩
      go_simp
      refine hK.out _ _ (by obtain ⟨g0, g1, g2, g3, g4, g5, g6, g7, g8, g9, g10, g11⟩ := hHx14; exact ⟨keepB hx g0, keepB hx g1, keepB hx g2, keepB hx g3, keepB hx g4, keepB hx g5, keepB hx g6, keepB hx g7, keepB hx g8, keepB hx g9, keepB hx g10, keepB hx g11⟩) (fun hHx15 => ?_)
      have E15 := Lib.hid (bB hx E14.out.size E14.out)
      clear hK K hHx14 hx E14
      (try simp only [Act.put, List.setIfInBounds_toArray, List.set_cons_zero, List.set_cons_succ])
      as_aux_lemma =>
      refine wpAnyH_ready (rs := [72]) (by kernel_rfl) (by simp) ?_
      refine AllReadyH.cons rfl (fun K hK => ?_) AllReadyH.nil
      go_simp
      refine (HAM.out _).mono ?_
      rintro e x16 ⟨rfl, hx⟩
      go_simp
      refine hK.out _ _ (by obtain ⟨g0, g1, g2, g3, g4, g5, g6, g7, g8, g9, g10, g11⟩ := hHx15; exact ⟨keepB hx g0, keepB hx g1, keepB hx g2, keepB hx g3, keepB hx g4, keepB hx g5, keepB hx g6, keepB hx g7, keepB hx g8, keepB hx g9, keepB hx g10, keepB hx g11⟩) (fun hHx16 => ?_)
      have E16 := Lib.hid (bB hx E15.out.size E15.out)
      clear hK K hHx15 hx E15
      (try simp only [Act.put, List.setIfInBounds_toArray, List.set_cons_zero, List.set_cons_succ])
      as_aux_lemma =>
      refine wpAnyH_take (i := 73) (oi := { dst := some 254, op := _, type := _, pos := _, after := _, guard := _ }) (v := .bool true) rfl (by kernel_rfl) (by kernel_rfl) (by kernel_rfl) (fun _ _ _ h => h) (Or.inl ⟨by rfl, ?_⟩) (by assumption) ?_
      · (intro w' hSw; (try dsimp only at hSw); obtain ⟨hS0, hS1, hS2, hS3, hS4, hS5, hS6, hS7, hS8, hS9, hS10, hS11⟩ := hSw; go_simp)
      (try simp only [Act.put, List.setIfInBounds_toArray, List.set_cons_zero, List.set_cons_succ])
      refine wpAnyH_take (i := 74) (oi := { dst := some 255, op := _, type := _, pos := _, after := _, guard := _ }) (v := .bool true) rfl (by kernel_rfl) (by kernel_rfl) (by kernel_rfl) (fun _ _ _ h => h) (Or.inl ⟨by rfl, ?_⟩) (by assumption) ?_
      · (intro w' hSw; (try dsimp only at hSw); obtain ⟨hS0, hS1, hS2, hS3, hS4, hS5, hS6, hS7, hS8, hS9, hS10, hS11⟩ := hSw; go_simp)
      (try simp only [Act.put, List.setIfInBounds_toArray, List.set_cons_zero, List.set_cons_succ])
      refine wpAnyH_take (i := 75) (oi := { dst := some 256, op := _, type := _, pos := _, after := _, guard := _ }) (v := .bool true) rfl (by kernel_rfl) (by kernel_rfl) (by kernel_rfl) (fun _ _ _ h => h) (Or.inl ⟨by rfl, ?_⟩) (by assumption) ?_
      · (intro w' hSw; (try dsimp only at hSw); obtain ⟨hS0, hS1, hS2, hS3, hS4, hS5, hS6, hS7, hS8, hS9, hS10, hS11⟩ := hSw; go_simp)
      (try simp only [Act.put, List.setIfInBounds_toArray, List.set_cons_zero, List.set_cons_succ])
      refine wpAnyH_take (i := 76) (oi := { dst := some 257, op := _, type := _, pos := _, after := _, guard := _ }) (v := .agg #[.int .i64 n7, .int .i64 a7]) rfl (by kernel_rfl) (by kernel_rfl) (by kernel_rfl) (fun _ _ _ h => h) (Or.inl ⟨by rfl, ?_⟩) (by assumption) ?_
      · (intro w' hSw; (try dsimp only at hSw); obtain ⟨hS0, hS1, hS2, hS3, hS4, hS5, hS6, hS7, hS8, hS9, hS10, hS11⟩ := hSw; go_simp)
      (try simp only [Act.put, List.setIfInBounds_toArray, List.set_cons_zero, List.set_cons_succ])
      refine wpAnyH_take (i := 77) (oi := { dst := some 258, op := _, type := _, pos := _, after := _, guard := _ }) (v := .int .i64 i7) rfl (by kernel_rfl) (by kernel_rfl) (by kernel_rfl) (fun _ _ _ h => h) (Or.inl ⟨by rfl, ?_⟩) (by assumption) ?_
      · (intro w' hSw; (try dsimp only at hSw); obtain ⟨hS0, hS1, hS2, hS3, hS4, hS5, hS6, hS7, hS8, hS9, hS10, hS11⟩ := hSw; go_simp)
      (try simp only [Act.put, List.setIfInBounds_toArray, List.set_cons_zero, List.set_cons_succ])
      refine wpAnyH_take (i := 79) (oi := { dst := some 260, op := _, type := _, pos := _, after := _, guard := _ }) (v := .agg #[.int .i64 n7, .int .i64 a7]) rfl (by kernel_rfl) (by kernel_rfl) (by kernel_rfl) (fun _ _ _ h => h) (Or.inl ⟨by rfl, ?_⟩) (by assumption) ?_
      · (intro w' hSw; (try dsimp only at hSw); obtain ⟨hS0, hS1, hS2, hS3, hS4, hS5, hS6, hS7, hS8, hS9, hS10, hS11⟩ := hSw; go_simp)
      (try simp only [Act.put, List.setIfInBounds_toArray, List.set_cons_zero, List.set_cons_succ])
      refine wpAnyH_take (i := 80) (oi := { dst := some 261, op := _, type := _, pos := _, after := _, guard := _ }) (v := .int .i64 i7) rfl (by kernel_rfl) (by kernel_rfl) (by kernel_rfl) (fun _ _ _ h => h) (Or.inl ⟨by rfl, ?_⟩) (by assumption) ?_
      · (intro w' hSw; (try dsimp only at hSw); obtain ⟨hS0, hS1, hS2, hS3, hS4, hS5, hS6, hS7, hS8, hS9, hS10, hS11⟩ := hSw; go_simp)
      (try simp only [Act.put, List.setIfInBounds_toArray, List.set_cons_zero, List.set_cons_succ])
      refine wpAnyH_ready (rs := [78]) (by kernel_rfl) (by simp) ?_
      refine AllReadyH.cons rfl (fun K hK => ?_) AllReadyH.nil
      go_simp
      refine (HUI.out _).mono ?_
      rintro e x17 ⟨rfl, hx⟩
      go_simp
      refine hK.out _ _ (by obtain ⟨g0, g1, g2, g3, g4, g5, g6, g7, g8, g9, g10, g11⟩ := hHx16; exact ⟨keepB hx g0, keepB hx g1, keepB hx g2, keepB hx g3, keepB hx g4, keepB hx g5, keepB hx g6, keepB hx g7, keepB hx g8, keepB hx g9, keepB hx g10, keepB hx g11⟩) (fun hHx17 => ?_)
      have E17 := Lib.hid (bB hx E16.out.size E16.out)
      clear hK K hHx16 hx E16
      (try simp only [Act.put, List.setIfInBounds_toArray, List.set_cons_zero, List.set_cons_succ])
      as_aux_lemma =>
      refine wpAnyH_ready (rs := [81]) (by kernel_rfl) (by simp) ?_
      refine AllReadyH.cons rfl (fun K hK => ?_) AllReadyH.nil
      go_simp
      refine (HUM.out _).mono ?_
      rintro e x18 ⟨rfl, hx⟩
      go_simp
      refine hK.out _ _ (by obtain ⟨g0, g1, g2, g3, g4, g5, g6, g7, g8, g9, g10, g11⟩ := hHx17; exact ⟨keepB hx g0, keepB hx g1, keepB hx g2, keepB hx g3, keepB hx g4, keepB hx g5, keepB hx g6, keepB hx g7, keepB hx g8, keepB hx g9, keepB hx g10, keepB hx g11⟩) (fun hHx18 => ?_)
      have E18 := Lib.hid (bB hx E17.out.size E17.out)
      clear hK K hHx17 hx E17
      (try simp only [Act.put, List.setIfInBounds_toArray, List.set_cons_zero, List.set_cons_succ])
      as_aux_lemma =>
      refine wpAnyH_take (i := 82) (oi := { dst := some 263, op := _, type := _, pos := _, after := _, guard := _ }) (v := .bool true) rfl (by kernel_rfl) (by kernel_rfl) (by kernel_rfl) (fun _ _ _ h => h) (Or.inl ⟨by rfl, ?_⟩) (by assumption) ?_
      · (intro w' hSw; (try dsimp only at hSw); obtain ⟨hS0, hS1, hS2, hS3, hS4, hS5, hS6, hS7, hS8, hS9, hS10, hS11⟩ := hSw; go_simp)
      (try simp only [Act.put, List.setIfInBounds_toArray, List.set_cons_zero, List.set_cons_succ])
      refine wpAnyH_take (i := 83) (oi := { dst := some 264, op := _, type := _, pos := _, after := _, guard := _ }) (v := .bool true) rfl (by kernel_rfl) (by kernel_rfl) (by kernel_rfl) (fun _ _ _ h => h) (Or.inl ⟨by rfl, ?_⟩) (by assumption) ?_
      · (intro w' hSw; (try dsimp only at hSw); obtain ⟨hS0, hS1, hS2, hS3, hS4, hS5, hS6, hS7, hS8, hS9, hS10, hS11⟩ := hSw; go_simp)
      (try simp only [Act.put, List.setIfInBounds_toArray, List.set_cons_zero, List.set_cons_succ])
      refine wpAnyH_take (i := 84) (oi := { dst := some 265, op := _, type := _, pos := _, after := _, guard := _ }) (v := .bool true) rfl (by kernel_rfl) (by kernel_rfl) (by kernel_rfl) (fun _ _ _ h => h) (Or.inl ⟨by rfl, ?_⟩) (by assumption) ?_
      · (intro w' hSw; (try dsimp only at hSw); obtain ⟨hS0, hS1, hS2, hS3, hS4, hS5, hS6, hS7, hS8, hS9, hS10, hS11⟩ := hSw; go_simp)
      (try simp only [Act.put, List.setIfInBounds_toArray, List.set_cons_zero, List.set_cons_succ])
      refine wpAnyH_take (i := 85) (oi := { dst := some 266, op := _, type := _, pos := _, after := _, guard := _ }) (v := .agg #[.int .i64 n7, .int .i64 a7]) rfl (by kernel_rfl) (by kernel_rfl) (by kernel_rfl) (fun _ _ _ h => h) (Or.inl ⟨by rfl, ?_⟩) (by assumption) ?_
      · (intro w' hSw; (try dsimp only at hSw); obtain ⟨hS0, hS1, hS2, hS3, hS4, hS5, hS6, hS7, hS8, hS9, hS10, hS11⟩ := hSw; go_simp)
      (try simp only [Act.put, List.setIfInBounds_toArray, List.set_cons_zero, List.set_cons_succ])
      refine wpAnyH_take (i := 86) (oi := { dst := some 267, op := _, type := _, pos := _, after := _, guard := _ }) (v := .int .i64 i7) rfl (by kernel_rfl) (by kernel_rfl) (by kernel_rfl) (fun _ _ _ h => h) (Or.inl ⟨by rfl, ?_⟩) (by assumption) ?_
      · (intro w' hSw; (try dsimp only at hSw); obtain ⟨hS0, hS1, hS2, hS3, hS4, hS5, hS6, hS7, hS8, hS9, hS10, hS11⟩ := hSw; go_simp)
      (try simp only [Act.put, List.setIfInBounds_toArray, List.set_cons_zero, List.set_cons_succ])
      refine wpAnyH_take (i := 88) (oi := { dst := some 269, op := _, type := _, pos := _, after := _, guard := _ }) (v := .agg #[.int .i64 n7, .int .i64 a7]) rfl (by kernel_rfl) (by kernel_rfl) (by kernel_rfl) (fun _ _ _ h => h) (Or.inl ⟨by rfl, ?_⟩) (by assumption) ?_
      · (intro w' hSw; (try dsimp only at hSw); obtain ⟨hS0, hS1, hS2, hS3, hS4, hS5, hS6, hS7, hS8, hS9, hS10, hS11⟩ := hSw; go_simp)
      (try simp only [Act.put, List.setIfInBounds_toArray, List.set_cons_zero, List.set_cons_succ])
      refine wpAnyH_take (i := 89) (oi := { dst := some 270, op := _, type := _, pos := _, after := _, guard := _ }) (v := .int .i64 i7) rfl (by kernel_rfl) (by kernel_rfl) (by kernel_rfl) (fun _ _ _ h => h) (Or.inl ⟨by rfl, ?_⟩) (by assumption) ?_
      · (intro w' hSw; (try dsimp only at hSw); obtain ⟨hS0, hS1, hS2, hS3, hS4, hS5, hS6, hS7, hS8, hS9, hS10, hS11⟩ := hSw; go_simp)
      (try simp only [Act.put, List.setIfInBounds_toArray, List.set_cons_zero, List.set_cons_succ])
      refine wpAnyH_ready (rs := [87]) (by kernel_rfl) (by simp) ?_
      refine AllReadyH.cons rfl (fun K hK => ?_) AllReadyH.nil
      go_simp
      refine (HVI.out _).mono ?_
      rintro e x19 ⟨rfl, hx⟩
      go_simp
      refine hK.out _ _ (by obtain ⟨g0, g1, g2, g3, g4, g5, g6, g7, g8, g9, g10, g11⟩ := hHx18; exact ⟨keepB hx g0, keepB hx g1, keepB hx g2, keepB hx g3, keepB hx g4, keepB hx g5, keepB hx g6, keepB hx g7, keepB hx g8, keepB hx g9, keepB hx g10, keepB hx g11⟩) (fun hHx19 => ?_)
      have E19 := Lib.hid (bB hx E18.out.size E18.out)
      clear hK K hHx18 hx E18
      (try simp only [Act.put, List.setIfInBounds_toArray, List.set_cons_zero, List.set_cons_succ])
      as_aux_lemma =>
      refine wpAnyH_ready (rs := [90]) (by kernel_rfl) (by simp) ?_
      refine AllReadyH.cons rfl (fun K hK => ?_) AllReadyH.nil
      go_simp
      refine (HVM.out _).mono ?_
      rintro e x20 ⟨rfl, hx⟩
      go_simp
      refine hK.out _ _ (by obtain ⟨g0, g1, g2, g3, g4, g5, g6, g7, g8, g9, g10, g11⟩ := hHx19; exact ⟨keepB hx g0, keepB hx g1, keepB hx g2, keepB hx g3, keepB hx g4, keepB hx g5, keepB hx g6, keepB hx g7, keepB hx g8, keepB hx g9, keepB hx g10, keepB hx g11⟩) (fun hHx20 => ?_)
      have E20 := Lib.hid (bB hx E19.out.size E19.out)
      clear hK K hHx19 hx E19
      (try simp only [Act.put, List.setIfInBounds_toArray, List.set_cons_zero, List.set_cons_succ])
      as_aux_lemma =>
      refine wpAnyH_take (i := 91) (oi := { dst := some 272, op := _, type := _, pos := _, after := _, guard := _ }) (v := .bool true) rfl (by kernel_rfl) (by kernel_rfl) (by kernel_rfl) (fun _ _ _ h => h) (Or.inl ⟨by rfl, ?_⟩) (by assumption) ?_
      · (intro w' hSw; (try dsimp only at hSw); obtain ⟨hS0, hS1, hS2, hS3, hS4, hS5, hS6, hS7, hS8, hS9, hS10, hS11⟩ := hSw; go_simp)
      (try simp only [Act.put, List.setIfInBounds_toArray, List.set_cons_zero, List.set_cons_succ])
      refine wpAnyH_take (i := 92) (oi := { dst := some 273, op := _, type := _, pos := _, after := _, guard := _ }) (v := .bool true) rfl (by kernel_rfl) (by kernel_rfl) (by kernel_rfl) (fun _ _ _ h => h) (Or.inl ⟨by rfl, ?_⟩) (by assumption) ?_
      · (intro w' hSw; (try dsimp only at hSw); obtain ⟨hS0, hS1, hS2, hS3, hS4, hS5, hS6, hS7, hS8, hS9, hS10, hS11⟩ := hSw; go_simp)
      (try simp only [Act.put, List.setIfInBounds_toArray, List.set_cons_zero, List.set_cons_succ])
      refine wpAnyH_take (i := 93) (oi := { dst := some 2, op := _, type := _, pos := _, after := _, guard := _ }) (v := .bool true) rfl (by kernel_rfl) (by kernel_rfl) (by kernel_rfl) (fun _ _ _ h => h) (Or.inl ⟨by rfl, ?_⟩) (by assumption) ?_
      · (intro w' hSw; (try dsimp only at hSw); obtain ⟨hS0, hS1, hS2, hS3, hS4, hS5, hS6, hS7, hS8, hS9, hS10, hS11⟩ := hSw; go_simp)
      (try simp only [Act.put, List.setIfInBounds_toArray, List.set_cons_zero, List.set_cons_succ])
      refine wpAnyH_done (by kernel_rfl) ?_ _
      go_wp2
      go_ret
      exact ⟨rfl, E20.out⟩
  · have hgt : ¬ (len0 : Int) ≤ 1048576 := hlen
    have hl : (len0 : Int) ≤ 9223372036854775807 := by
      rcases w0 with ⟨_, rfl, _⟩ | ⟨x, rfl, hlc, hm, _⟩
      · omega
      · unfold maxLen at hm; omega
    have HB := Lib.hid (Draw.big a0 len0 cap0 hl)
    rw [show decide (1048576 < (len0 : Int)) = true from decide_eq_true (by omega)] at HB
    clear w0 hlen hgt hl
    go_enter Try.func10, Try.ntmps10
    go_wp2_with fail
    refine (HB.out _).mono ?_
    rintro e w1 ⟨rfl, rfl⟩
    go_wp2
    go_ret
    exact ⟨rfl, Below.refl _ _⟩

set_option maxRecDepth 100000 in
theorem lifted (os : Os) (started : os.Started) (H : Type) (enc : TypeId × Value → H) :
    ReturnsInHanded {} Try.checked os 10 .any (Rows.fnCertificatesSpec.pre6 enc Try.prog Try.f10 Rows.fnCertificatesRow.domain false) (Rows.fnCertificatesSpec.post enc Try.prog Try.f10 false true false false) := by
  refine returnsInHanded_of_change (C := Try.checked) own started (by kernel_rfl) Try.func10
    (ChangeSpec.witness6 (enc := enc) (C := Try.checked) false ⟨#[], #[.slice none 0 0], []⟩ 8 (by kernel_rfl) (by kernel_rfl) (by kernel_rfl) (by kernel_rfl)) ?_
  intro W base args ds gs before hval0 hW hcnd _
  have hval : ∀ (j : Nat) t v, Try.f10.params[j]? = some t → args[j]? = some v → Value.okWide Try.prog W .any base t v := hval0
  have hW' := hW
  obtain ⟨p, q, hA0, hV, rfl, hfz, hnd⟩ := hW
  have hA : DataW.TrodAll enc Try.prog W 0 (fun _ => true) true Try.f10.params.toList args.toList ds p := hA0
  rw [Try.params10] at hA hval
  obtain ⟨v0, vs0, d0, ds0, p0, q0, hargs, rfl, rfl, h0, r0⟩ := trodAll_cons hA
  obtain ⟨rfl, rfl, rfl⟩ := trodAll_nil r0
  obtain rfl : args = #[v0] := by cases args; simp_all
  obtain ⟨rfl, rfl⟩ := trodVars_none hV
  obtain ⟨a0, len0, cap0, rfl⟩ := okWide_slice Try.underlying37 (hval 0 37 v0 rfl rfl)
  have k0 := h0
  have lt0 : ∀ x ∈ p0, x.block < W.heap.size := by obtain ⟨m, hm⟩ := k0; exact DataW.trod_lt m _ _ _ hm
  obtain ⟨z0, w0⟩ : ∃ zs, IsRow .u8 W a0 len0 cap0 zs := by
    obtain ⟨fuel, hf⟩ := h0
    rcases open_ints Try.underlying37 Try.underlying5 (by kernel_rfl) hf with ⟨hcs, _⟩ | ⟨x, l, c, zs, hcs, _, hl, hm, hz, _, hcell, hwz⟩
    · simp [Value.cells] at hcs
      obtain ⟨rfl, rfl, rfl⟩ := hcs
      exact ⟨[], .inl ⟨rfl, rfl, rfl, rfl⟩⟩
    · simp [Value.cells] at hcs
      obtain ⟨rfl, rfl, rfl⟩ := hcs
      exact ⟨zs, .inr ⟨_, rfl, hl, hm, by simpa using hz, hcell, hwz⟩⟩
  clear hA0 hval0
  simp only [List.append_nil] at hW'
  refine (walk a0 len0 cap0 z0 W w0).mono fun e W' ⟨he, bel⟩ => ?_
  subst he
  exact ⟨_, rfl, _, _, _, [], _, [], hW', trodAll_mk1 (shut_bool Try.underlying4 _), (trodAll_cons_mk (Below.trod laidOut (by kernel_rfl) (of_decide_eq_true (by kernel_rfl)) k0 bel lt0) trodAll_mk0), rfl, bel.frame _, fun h => by cases h⟩

theorem proved : Rows.FnCertificatesSaid :=
  OpenClaim.holds_of_wide 10 Try.f10 rfl rfl rfl rfl rfl rfl rfl ⟨rfl, rfl, rfl, rfl, rfl⟩ rfl rfl rfl rfl rfl (by kernel_rfl) Try.func10 (by kernel_rfl)
    (of_decide_eq_true (by kernel_rfl)) (by unfold Func.isWrapper; first | (rw [if_pos (by decide +kernel)]; kernel_rfl) | (rw [if_neg (by decide +kernel)]; exact ⟨rfl, rfl⟩))
    (fun os started H enc _ => lifted os started H enc)
end Go.Proofs.Ytbgjiblfnljigaa.fnCertificates
