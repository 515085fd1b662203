/-
  For every slice of bytes, the law of degrees returns true: the coefficients give the table back in both ways, modulo 2 they are those of the integers, texts are read back, and the program answers as the model does. No condition of its own: the law itself asks nothing of slices longer than 1048576 bytes.
  A TIED CARD: what its row lists of the library's variables is tied to the program's text by the given tie. It speaks of a pruned copy of the project (PRUNED.txt of its seat): code of other packages, commands or tests is not spoken of.
-/
import Derived.Lay
import Derived.Test.YtphjaggiddjhgaaGreatDoorCards
import Derived.Test.YtphjaggiddjhgaaGreatDoorTie
import Derived.WalkKit
import Derived.ProofKit
import Derived.OpenShut
import Derived.ShutString
import Derived.ChangeOld
import Derived.Below
import Derived.Stop.LaidErr
import Derived.LaidMore
import Derived.MakeChecks
import Derived.Deep.DeepHandedRow
import Derived.Deep.DeepWitnessRowRef
import Derived.Lib.LaidTab
import Derived.Lib.SmallJoins
import Derived.Test.YtphjaggiddjhgaaGreatDoorDegX
import Derived.Stop.LaidErr
import Derived.Deep.RegionHeld3
import Derived.Deep.DeepCutAuto
import Derived.Deep.DrawnRows
import Derived.Deep.QuietTactic
import Derived.BigQuiet
namespace Go.Proofs.YtphjaggiddjhgaaGreatDoor.fnDegrees
open Go.ChangeShapes Go.WideShapes Go.ChangeAt Go.RowKit
open Go.ChangeMaps (open_string shut_string)
open Go.Joins
set_option linter.unusedVariables false

theorem own : ownKnob Tryz.prog.godebug = none := by kernel_rfl
theorem laidOut : laidOutB Tryz.prog = true := by kernel_rfl

open Plain
attribute [local go_sem ↓] Go.wp_at_zero Go.wp_at_succ

/-- A slice of integers that came in: it is nil, or it leads to a row of 'cap' cells, the numbers 'zs', each fitting its kind. -/
def IsRow (k : IntKind) (w : World) (a : Option Addr) (len cap : Nat) (zs : List Int) : Prop :=
  (a = none ∧ len = 0 ∧ cap = 0 ∧ zs = []) ∨
  ∃ x, a = some x ∧ len ≤ cap ∧ cap ≤ maxLen ∧ zs.length = cap ∧ (∀ i, i < zs.length → w.cell? (x.add i) = some (.int k (zs.getD i 0))) ∧ ∀ n ∈ zs, (Lit.int k n).wf = true

theorem codeIn {w : World} {a : Option Addr} {len cap : Nat} {zs : List Int} (h : IsRow .u8 w a len cap zs) (hl : (len : Int) ≤ 1048576) : CodeIn w (.slice a len cap) len := by
  refine ⟨a, cap, rfl, by omega, fun h0 => ?_⟩
  rcases h with ⟨_, rfl, _⟩ | ⟨x, rfl, hlc, hm, hz, hcell, hwf⟩
  · omega
  · obtain ⟨ab, off, spot⟩ := x
    have hc := hcell 0 (by omega)
    have hspot : spot = none := by simpa [Addr.add] using World.cell?_spot hc
    subst hspot
    have hlt := World.block_lt_of_cell? w _ hc
    refine ⟨ab, off, rfl, by simpa [Addr.add] using hlt, fun j hj => ?_⟩
    have hj' : j < zs.length := by omega
    have hb := hwf (zs.getD j 0) (by simp [List.getD, hj'])
    have e1 : IntKind.u8.min = 0 := rfl
    have e2 : IntKind.u8.max = 255 := rfl
    simp only [Lit.wf, Bool.and_eq_true, decide_eq_true_eq, e1, e2] at hb
    have hadd : (⟨ab, off, none⟩ : Addr).add j = ⟨ab, off + j, none⟩ := by unfold Addr.add; split <;> simp_all
    exact ⟨zs.getD j 0, hb.1, hb.2, hadd ▸ hcell j hj'⟩

theorem row_in {w : World} {B : Nat} {v : Value} {l : List Int} (h : IntRow w B v l) (h1 : l.length ≤ 32) (h2 : ∀ y ∈ l, -9223372036854775808 ≤ y ∧ y ≤ 9223372036854775807) : IntsIn w v l := h.ints (by omega) h2
theorem same_str (t : ByteArray) : (t.toList == t.toList) = true ∧ (t.toList != t.toList) = false := by simp
theorem same_bool (b : Bool) : (b != b) = false ∧ (b == b) = true := by cases b <;> decide
theorem same_int (z : Int) : (z != z) = false ∧ (z == z) = true := by simp

set_option maxRecDepth 100000 in
set_option maxHeartbeats 8000000 in
theorem walk (a0 : Option Addr) (len0 cap0 : Nat) (z0 : List Int) (W : World) (w0 : IsRow .u8 W a0 len0 cap0 z0) (hL : laidMetH Tryz.prog Rows.fnDegreesRow.laid W) (hS : W.ShapedOpen Tryz.prog) :
    Calls Tryz.prog 3 #[.slice a0 len0 cap0] W fun e w' => e = .returned (.bool true) ∧ Below W.heap.size W w' := by
  rw [MakeChecks.laidMetH_plain _ _ _ (by kernel_rfl)] at hL
  have TZ := Lib.hid (tzTab hL.tail)
  have ML := Lib.hid (MaxL.of_shape hS)
  clear hL hS
  by_cases hlen : (len0 : Int) ≤ 1048576
  · have CODE := Lib.hid (codeIn w0 hlen)
    have HB := Lib.hid (Draw.big a0 len0 cap0 (by omega))
    rw [show decide (1048576 < (len0 : Int)) = false from decide_eq_false (by omega)] at HB
    clear w0 hlen
    go_enter Tryz.func3, Tryz.ntmps3
    go_wp2_with fail
    refine (HB.out _).mono ?_
    rintro e w1 ⟨rfl, rfl⟩
    go_wp2_with fail
    refine (Draw.anf _ len0 _ CODE.out).mono ?_
    rintro e w1 ⟨n, a, rfl, hn, ha, hb1⟩
    have A64 := Lib.hid ha
    have HAI := Lib.hid (Anf.impl n a ha)
    have HAM := Lib.hid (Anf.model n a)
    have HRI := Lib.hid (Rec.impl n a ha)
    have HRM := Lib.hid (Rec.model n a)
    have HDI := Lib.hid (Dm.impl n a ha)
    have HDM := Lib.hid (Dm.model n a)
    have HEI := Lib.hid (Rd.impl n a ha)
    have HEM := Lib.hid (Rd.model n a)
    have HCT := Lib.hid (Tab.cntI n a ha)
    have HFI := Lib.hid (Fm.impl n a ha)
    have HFM := Lib.hid (Fm.model n a)
    have HROK := Lib.hid (recT_ok n a)
    obtain ⟨T, hT⟩ : ∃ T, anfT n a = T := ⟨_, rfl⟩
    obtain ⟨d1, hd1⟩ : ∃ d, dmT n a = d := ⟨_, rfl⟩
    obtain ⟨d2, hd2⟩ : ∃ d, rdT n a = d := ⟨_, rfl⟩
    obtain ⟨l, hl⟩ : ∃ l, recT n a = l := ⟨_, rfl⟩
    rw [hT] at HAI HAM
    rw [hd1] at HDI HDM
    rw [hd2] at HEI HEM
    rw [hl] at HRI HRM HROK
    have HT := Lib.hid hT
    have HD1 := Lib.hid hd1
    have HD2 := Lib.hid hd2
    have HLQ := Lib.hid hl
    have B1 := Lib.hid (bA hb1.size hb1 (o := .cells #[.int .i64 n, .int .i64 a] 25))
    have f0 : (w1.alloc (.cells #[.int .i64 n, .int .i64 a] 25)).cell? ⟨w1.heap.size, 0, none⟩ = some (.int .i64 n) := keepN rfl rfl
    have f1 : (w1.alloc (.cells #[.int .i64 n, .int .i64 a] 25)).cell? ⟨w1.heap.size, 1, none⟩ = some (.int .i64 a) := keepN rfl rfl
    have hs1 : w1.heap.size < (w1.alloc (.cells #[.int .i64 n, .int .i64 a] 25)).heap.size := by simp
    clear hn ha hb1 hT hd1 hd2 hl
    obtain ⟨T1, T2, T3⟩ := T
    go_wp2_with fail
    refine (HAI.out _).mono ?_
    rintro e w2 ⟨rfl, hb2⟩
    have B2 := Lib.hid (B1.out.trans (hb2.mono B1.out.size))
    replace f0 := keepB hb2 f0
    replace f1 := keepB hb2 f1
    replace hs1 : w1.heap.size < w2.heap.size := Nat.lt_of_lt_of_le hs1 hb2.size
    have B2a := Lib.hid (bA B2.out.size B2.out (o := .cells #[.int .i64 T1, .int .i64 T2] 25))
    replace f0 := keepA (o := .cells #[.int .i64 T1, .int .i64 T2] 25) f0
    replace f1 := keepA (o := .cells #[.int .i64 T1, .int .i64 T2] 25) f1
    have g0 : (w2.alloc (.cells #[.int .i64 T1, .int .i64 T2] 25)).cell? ⟨w2.heap.size, 0, none⟩ = some (.int .i64 T1) := keepN rfl rfl
    have g1 : (w2.alloc (.cells #[.int .i64 T1, .int .i64 T2] 25)).cell? ⟨w2.heap.size, 1, none⟩ = some (.int .i64 T2) := keepN rfl rfl
    clear hb2 B1 B2
    go_wp2_with fail
    refine (HAM.out _).mono ?_
    rintro e w3 ⟨rfl, hb3⟩
    have B3 := Lib.hid (B2a.out.trans (hb3.mono B2a.out.size))
    replace f0 := keepA (o := .cells #[.int .i64 T1, .int .i64 T2] 25) (keepB hb3 f0)
    replace f1 := keepA (o := .cells #[.int .i64 T1, .int .i64 T2] 25) (keepB hb3 f1)
    replace g0 := keepA (o := .cells #[.int .i64 T1, .int .i64 T2] 25) (keepB hb3 g0)
    replace g1 := keepA (o := .cells #[.int .i64 T1, .int .i64 T2] 25) (keepB hb3 g1)
    have hs3 := hb3.size
    simp only [World.size_alloc] at hs3
    have hs13 : w1.heap.size < w3.heap.size := by omega
    have hs23 : w2.heap.size < w3.heap.size := by omega
    have B3a := Lib.hid (bA B3.out.size B3.out (o := .cells #[.int .i64 T1, .int .i64 T2] 25))
    have h0 : (w3.alloc (.cells #[.int .i64 T1, .int .i64 T2] 25)).cell? ⟨w3.heap.size, 0, none⟩ = some (.int .i64 T1) := keepN rfl rfl
    have h1 : (w3.alloc (.cells #[.int .i64 T1, .int .i64 T2] 25)).cell? ⟨w3.heap.size, 1, none⟩ = some (.int .i64 T2) := keepN rfl rfl
    clear hb3 B2a B3 hs3
    go_wp2_with fail
    refine (HRI.out _).mono ?_
    rintro e w4 ⟨v, rfl, hrow, hb4⟩
    have B4 := Lib.hid (B3a.out.trans (hb4.mono B3a.out.size))
    replace f0 := keepB hb4 f0
    replace f1 := keepB hb4 f1
    replace g0 := keepB hb4 g0
    replace g1 := keepB hb4 g1
    replace h0 := keepB hb4 h0
    replace h1 := keepB hb4 h1
    have hs34 : w3.heap.size < w4.heap.size := World.block_lt_of_cell? _ ⟨w3.heap.size, 0, none⟩ h0
    have hs24 : w2.heap.size < w4.heap.size := World.block_lt_of_cell? _ ⟨w2.heap.size, 0, none⟩ g0
    have hs14 : w1.heap.size < w4.heap.size := World.block_lt_of_cell? _ ⟨w1.heap.size, 0, none⟩ f0
    have R4 := Lib.hid (row_in hrow HROK.out.1 HROK.out.2)
    clear hb4 hrow B3a hs1 hs13 hs23
    obtain ⟨t3a, t3b⟩ := same_bool T3
    obtain ⟨u1a, u1b⟩ := same_int d1
    obtain ⟨u2a, u2b⟩ := same_int d2
    obtain ⟨u3a, u3b⟩ := same_int T1
    obtain ⟨u4a, u4b⟩ := same_int T2
    go_wp2_with fail
    refine wp_region_held_drew (S := fun w' => w'.cell? ⟨w1.heap.size, 0, none⟩ = some (.int .i64 n) ∧ w'.cell? ⟨w1.heap.size, 1, none⟩ = some (.int .i64 a) ∧ w'.cell? ⟨w2.heap.size, 0, none⟩ = some (.int .i64 T1) ∧ w'.cell? ⟨w2.heap.size, 1, none⟩ = some (.int .i64 T2) ∧ w'.cell? ⟨w3.heap.size, 0, none⟩ = some (.int .i64 T1) ∧ w'.cell? ⟨w3.heap.size, 1, none⟩ = some (.int .i64 T2)) (by kernel_rfl) ⟨keepD f0, keepD f1, keepD g0, keepD g1, keepD h0, keepD h1⟩ (fun hHeld => ?_)
    have B4r := Lib.hid (bD B4.out)
    refine wpAnyH_take (i := 0) (oi := { dst := some 45, op := _, type := _, pos := _, after := _, guard := _ }) (v := .agg #[.int .i64 T1, .int .i64 T2]) rfl (by kernel_rfl) (by kernel_rfl) (by kernel_rfl) (fun _ _ _ h => h) (Or.inl ⟨by rfl, ?_⟩) (by assumption) ?_
    · (intro w' hSw; (try dsimp only at hSw); obtain ⟨hS0, hS1, hS2, hS3, hS4, hS5⟩ := hSw; go_simp)
    (try simp only [Act.put, List.setIfInBounds_toArray, List.set_cons_zero, List.set_cons_succ])
    refine wpAnyH_take (i := 1) (oi := { dst := some 46, op := _, type := _, pos := _, after := _, guard := _ }) (v := .agg #[.int .i64 T1, .int .i64 T2]) rfl (by kernel_rfl) (by kernel_rfl) (by kernel_rfl) (fun _ _ _ h => h) (Or.inl ⟨by rfl, ?_⟩) (by assumption) ?_
    · (intro w' hSw; (try dsimp only at hSw); obtain ⟨hS0, hS1, hS2, hS3, hS4, hS5⟩ := hSw; go_simp)
    (try simp only [Act.put, List.setIfInBounds_toArray, List.set_cons_zero, List.set_cons_succ])
    refine wpAnyH_take (i := 2) (oi := { dst := some 47, op := _, type := _, pos := _, after := _, guard := _ }) (v := .bool false) rfl (by kernel_rfl) (by kernel_rfl) (by kernel_rfl) (fun _ _ _ h => h) (Or.inl ⟨by rfl, ?_⟩) (by assumption) ?_
    · (intro w' hSw; (try dsimp only at hSw); obtain ⟨hS0, hS1, hS2, hS3, hS4, hS5⟩ := hSw; go_simp)
    (try simp only [Act.put, List.setIfInBounds_toArray, List.set_cons_zero, List.set_cons_succ])
    refine wpAnyH_take (i := 3) (oi := { dst := some 48, op := _, type := _, pos := _, after := _, guard := _ }) (v := .bool false) rfl (by kernel_rfl) (by kernel_rfl) (by kernel_rfl) (fun _ _ _ h => h) (Or.inl ⟨by rfl, ?_⟩) (by assumption) ?_
    · (intro w' hSw; (try dsimp only at hSw); obtain ⟨hS0, hS1, hS2, hS3, hS4, hS5⟩ := hSw; go_simp)
    (try simp only [Act.put, List.setIfInBounds_toArray, List.set_cons_zero, List.set_cons_succ])
    refine wpAnyH_take (i := 4) (oi := { dst := some 49, op := _, type := _, pos := _, after := _, guard := _ }) (v := .bool T3) rfl (by kernel_rfl) (by kernel_rfl) (by kernel_rfl) (fun _ _ _ h => h) (Or.inl ⟨by rfl, ?_⟩) (by assumption) ?_
    · (intro w' hSw; (try dsimp only at hSw); obtain ⟨hS0, hS1, hS2, hS3, hS4, hS5⟩ := hSw; go_simp)
    (try simp only [Act.put, List.setIfInBounds_toArray, List.set_cons_zero, List.set_cons_succ])
    refine wpAnyH_take (i := 5) (oi := { dst := some 50, op := _, type := _, pos := _, after := _, guard := _ }) (v := .bool T3) rfl (by kernel_rfl) (by kernel_rfl) (by kernel_rfl) (fun _ _ _ h => h) (Or.inl ⟨by rfl, ?_⟩) (by assumption) ?_
    · (intro w' hSw; (try dsimp only at hSw); obtain ⟨hS0, hS1, hS2, hS3, hS4, hS5⟩ := hSw; go_simp)
    (try simp only [Act.put, List.setIfInBounds_toArray, List.set_cons_zero, List.set_cons_succ])
    refine wpAnyH_take (i := 6) (oi := { dst := some 51, op := _, type := _, pos := _, after := _, guard := _ }) (v := .bool false) rfl (by kernel_rfl) (by kernel_rfl) (by kernel_rfl) (fun _ _ _ h => h) (Or.inl ⟨by rfl, ?_⟩) (by assumption) ?_
    · (intro w' hSw; (try dsimp only at hSw); obtain ⟨hS0, hS1, hS2, hS3, hS4, hS5⟩ := hSw; go_simp)
    (try simp only [Act.put, List.setIfInBounds_toArray, List.set_cons_zero, List.set_cons_succ])
    refine wpAnyH_take (i := 7) (oi := { dst := some 52, op := _, type := _, pos := _, after := _, guard := _ }) (v := .bool false) rfl (by kernel_rfl) (by kernel_rfl) (by kernel_rfl) (fun _ _ _ h => h) (Or.inl ⟨by rfl, ?_⟩) (by assumption) ?_
    · (intro w' hSw; (try dsimp only at hSw); obtain ⟨hS0, hS1, hS2, hS3, hS4, hS5⟩ := hSw; go_simp)
    (try simp only [Act.put, List.setIfInBounds_toArray, List.set_cons_zero, List.set_cons_succ])
    refine wpAnyH_take (i := 8) (oi := { dst := some 53, op := _, type := _, pos := _, after := _, guard := _ }) (v := .bool false) rfl (by kernel_rfl) (by kernel_rfl) (by kernel_rfl) (fun _ _ _ h => h) (Or.inl ⟨by rfl, ?_⟩) (by assumption) ?_
    · (intro w' hSw; (try dsimp only at hSw); obtain ⟨hS0, hS1, hS2, hS3, hS4, hS5⟩ := hSw; go_simp)
    (try simp only [Act.put, List.setIfInBounds_toArray, List.set_cons_zero, List.set_cons_succ])
    refine wpAnyH_take (i := 9) (oi := { dst := some 54, op := _, type := _, pos := _, after := _, guard := _ }) (v := v) rfl (by kernel_rfl) (by kernel_rfl) (by kernel_rfl) (fun _ _ _ h => h) (Or.inl ⟨by rfl, ?_⟩) (by assumption) ?_
    · (intro w' hSw; (try dsimp only at hSw); obtain ⟨hS0, hS1, hS2, hS3, hS4, hS5⟩ := hSw; go_simp)
    (try simp only [Act.put, List.setIfInBounds_toArray, List.set_cons_zero, List.set_cons_succ])
    refine wpAnyH_take (i := 10) (oi := { dst := some 55, op := _, type := _, pos := _, after := _, guard := _ }) (v := .agg #[.int .i64 n, .int .i64 a]) rfl (by kernel_rfl) (by kernel_rfl) (by kernel_rfl) (fun _ _ _ h => h) (Or.inl ⟨by rfl, ?_⟩) (by assumption) ?_
    · (intro w' hSw; (try dsimp only at hSw); obtain ⟨hS0, hS1, hS2, hS3, hS4, hS5⟩ := hSw; go_simp)
    (try simp only [Act.put, List.setIfInBounds_toArray, List.set_cons_zero, List.set_cons_succ])
    refine wpAnyH_ready (rs := [11]) (by kernel_rfl) (by simp) ?_
    refine AllReadyH.cons rfl (fun K hK => ?_) AllReadyH.nil
    go_simp
    refine (HRM.out _).mono ?_
    rintro e x1 ⟨vm, rfl, hrow, hx⟩
    go_simp
    refine hK.out _ _ (by obtain ⟨g0, g1, g2, g3, g4, g5⟩ := hHeld; exact ⟨keepB hx g0, keepB hx g1, keepB hx g2, keepB hx g3, keepB hx g4, keepB hx g5⟩) (fun hHx1 => ?_)
    have Ex1 := Lib.hid (bB hx B4r.out.size B4r.out)
    have R5 := Lib.hid ((R4.out.below (Below.refl _ _).drew).below hx)
    have M5 := Lib.hid (row_in hrow HROK.out.1 HROK.out.2)
    clear hrow R4
    clear hK K hHeld B4r hx
    (try simp only [Act.put, List.setIfInBounds_toArray, List.set_cons_zero, List.set_cons_succ])
    as_aux_lemma =>
    refine wpAnyH_ready (rs := [12]) (by kernel_rfl) (by simp) ?_
    refine AllReadyH.cons rfl (fun K hK => ?_) AllReadyH.nil
    go_simp
    refine (Ints.sameZ v vm l _ R5.out M5.out).mono ?_
    rintro e x2 ⟨rfl, qx2, rfl⟩
    go_simp
    refine hK.out _ _ (by obtain ⟨g0, g1, g2, g3, g4, g5⟩ := hHx1; exact ⟨g0, g1, g2, g3, g4, g5⟩) (fun hHx2 => ?_)
    have Ex2 := Lib.hid (below_drewN Ex1.out qx2)
    have R6 := Lib.hid (R5.out.below (below_drewN (Below.refl _ _) qx2))
    clear R5 M5
    clear hK K hHx1 Ex1
    (try simp only [Act.put, List.setIfInBounds_toArray, List.set_cons_zero, List.set_cons_succ])
    as_aux_lemma =>
    refine wpAnyH_take (i := 13) (oi := { dst := some 58, op := _, type := _, pos := _, after := _, guard := _ }) (v := .bool false) rfl (by kernel_rfl) (by kernel_rfl) (by kernel_rfl) (fun _ _ _ h => h) (Or.inl ⟨by rfl, ?_⟩) (by assumption) ?_
    · (intro w' hSw; (try dsimp only at hSw); obtain ⟨hS0, hS1, hS2, hS3, hS4, hS5⟩ := hSw; go_simp)
    (try simp only [Act.put, List.setIfInBounds_toArray, List.set_cons_zero, List.set_cons_succ])
    refine wpAnyH_take (i := 14) (oi := { dst := some 59, op := _, type := _, pos := _, after := _, guard := _ }) (v := .bool false) rfl (by kernel_rfl) (by kernel_rfl) (by kernel_rfl) (fun _ _ _ h => h) (Or.inl ⟨by rfl, ?_⟩) (by assumption) ?_
    · (intro w' hSw; (try dsimp only at hSw); obtain ⟨hS0, hS1, hS2, hS3, hS4, hS5⟩ := hSw; go_simp)
    (try simp only [Act.put, List.setIfInBounds_toArray, List.set_cons_zero, List.set_cons_succ])
    refine wpAnyH_take (i := 15) (oi := { dst := some 60, op := _, type := _, pos := _, after := _, guard := _ }) (v := .bool false) rfl (by kernel_rfl) (by kernel_rfl) (by kernel_rfl) (fun _ _ _ h => h) (Or.inl ⟨by rfl, ?_⟩) (by assumption) ?_
    · (intro w' hSw; (try dsimp only at hSw); obtain ⟨hS0, hS1, hS2, hS3, hS4, hS5⟩ := hSw; go_simp)
    (try simp only [Act.put, List.setIfInBounds_toArray, List.set_cons_zero, List.set_cons_succ])
    refine wpAnyH_take (i := 16) (oi := { dst := some 61, op := _, type := _, pos := _, after := _, guard := _ }) (v := .agg #[.int .i64 n, .int .i64 a]) rfl (by kernel_rfl) (by kernel_rfl) (by kernel_rfl) (fun _ _ _ h => h) (Or.inl ⟨by rfl, ?_⟩) (by assumption) ?_
    · (intro w' hSw; (try dsimp only at hSw); obtain ⟨hS0, hS1, hS2, hS3, hS4, hS5⟩ := hSw; go_simp)
    (try simp only [Act.put, List.setIfInBounds_toArray, List.set_cons_zero, List.set_cons_succ])
    refine wpAnyH_take (i := 18) (oi := { dst := some 63, op := _, type := _, pos := _, after := _, guard := _ }) (v := .agg #[.int .i64 n, .int .i64 a]) rfl (by kernel_rfl) (by kernel_rfl) (by kernel_rfl) (fun _ _ _ h => h) (Or.inl ⟨by rfl, ?_⟩) (by assumption) ?_
    · (intro w' hSw; (try dsimp only at hSw); obtain ⟨hS0, hS1, hS2, hS3, hS4, hS5⟩ := hSw; go_simp)
    (try simp only [Act.put, List.setIfInBounds_toArray, List.set_cons_zero, List.set_cons_succ])
    refine wpAnyH_ready (rs := [17]) (by kernel_rfl) (by simp) ?_
    refine AllReadyH.cons rfl (fun K hK => ?_) AllReadyH.nil
    go_simp
    refine (HDI.out _).mono ?_
    rintro e x3 ⟨rfl, hx⟩
    go_simp
    refine hK.out _ _ (by obtain ⟨g0, g1, g2, g3, g4, g5⟩ := hHx2; exact ⟨keepB hx g0, keepB hx g1, keepB hx g2, keepB hx g3, keepB hx g4, keepB hx g5⟩) (fun hHx3 => ?_)
    have Ex3 := Lib.hid (bB hx Ex2.out.size Ex2.out)
    have R7 := Lib.hid (R6.out.below hx)
    clear R6
    clear hK K hHx2 Ex2 hx
    (try simp only [Act.put, List.setIfInBounds_toArray, List.set_cons_zero, List.set_cons_succ])
    as_aux_lemma =>
    refine wpAnyH_ready (rs := [19]) (by kernel_rfl) (by simp) ?_
    refine AllReadyH.cons rfl (fun K hK => ?_) AllReadyH.nil
    go_simp
    refine (HDM.out _).mono ?_
    rintro e x4 ⟨rfl, hx⟩
    go_simp
    refine hK.out _ _ (by obtain ⟨g0, g1, g2, g3, g4, g5⟩ := hHx3; exact ⟨keepB hx g0, keepB hx g1, keepB hx g2, keepB hx g3, keepB hx g4, keepB hx g5⟩) (fun hHx4 => ?_)
    have Ex4 := Lib.hid (bB hx Ex3.out.size Ex3.out)
    have R8 := Lib.hid (R7.out.below hx)
    clear R7
    clear hK K hHx3 Ex3 hx
    (try simp only [Act.put, List.setIfInBounds_toArray, List.set_cons_zero, List.set_cons_succ])
    as_aux_lemma =>
    refine wpAnyH_take (i := 20) (oi := { dst := some 65, op := _, type := _, pos := _, after := _, guard := _ }) (v := .bool false) rfl (by kernel_rfl) (by kernel_rfl) (by kernel_rfl) (fun _ _ _ h => h) (Or.inl ⟨by rfl, ?_⟩) (by assumption) ?_
    · (intro w' hSw; (try dsimp only at hSw); obtain ⟨hS0, hS1, hS2, hS3, hS4, hS5⟩ := hSw; go_simp)
    (try simp only [Act.put, List.setIfInBounds_toArray, List.set_cons_zero, List.set_cons_succ])
    refine wpAnyH_take (i := 21) (oi := { dst := some 66, op := _, type := _, pos := _, after := _, guard := _ }) (v := .bool false) rfl (by kernel_rfl) (by kernel_rfl) (by kernel_rfl) (fun _ _ _ h => h) (Or.inl ⟨by rfl, ?_⟩) (by assumption) ?_
    · (intro w' hSw; (try dsimp only at hSw); obtain ⟨hS0, hS1, hS2, hS3, hS4, hS5⟩ := hSw; go_simp)
    (try simp only [Act.put, List.setIfInBounds_toArray, List.set_cons_zero, List.set_cons_succ])
    refine wpAnyH_take (i := 22) (oi := { dst := some 67, op := _, type := _, pos := _, after := _, guard := _ }) (v := .bool false) rfl (by kernel_rfl) (by kernel_rfl) (by kernel_rfl) (fun _ _ _ h => h) (Or.inl ⟨by rfl, ?_⟩) (by assumption) ?_
    · (intro w' hSw; (try dsimp only at hSw); obtain ⟨hS0, hS1, hS2, hS3, hS4, hS5⟩ := hSw; go_simp)
    (try simp only [Act.put, List.setIfInBounds_toArray, List.set_cons_zero, List.set_cons_succ])
    refine wpAnyH_take (i := 23) (oi := { dst := some 68, op := _, type := _, pos := _, after := _, guard := _ }) (v := .agg #[.int .i64 n, .int .i64 a]) rfl (by kernel_rfl) (by kernel_rfl) (by kernel_rfl) (fun _ _ _ h => h) (Or.inl ⟨by rfl, ?_⟩) (by assumption) ?_
    · (intro w' hSw; (try dsimp only at hSw); obtain ⟨hS0, hS1, hS2, hS3, hS4, hS5⟩ := hSw; go_simp)
    (try simp only [Act.put, List.setIfInBounds_toArray, List.set_cons_zero, List.set_cons_succ])
    refine wpAnyH_take (i := 25) (oi := { dst := some 70, op := _, type := _, pos := _, after := _, guard := _ }) (v := .agg #[.int .i64 n, .int .i64 a]) rfl (by kernel_rfl) (by kernel_rfl) (by kernel_rfl) (fun _ _ _ h => h) (Or.inl ⟨by rfl, ?_⟩) (by assumption) ?_
    · (intro w' hSw; (try dsimp only at hSw); obtain ⟨hS0, hS1, hS2, hS3, hS4, hS5⟩ := hSw; go_simp)
    (try simp only [Act.put, List.setIfInBounds_toArray, List.set_cons_zero, List.set_cons_succ])
    refine wpAnyH_ready (rs := [24]) (by kernel_rfl) (by simp) ?_
    refine AllReadyH.cons rfl (fun K hK => ?_) AllReadyH.nil
    go_simp
    refine (HEI.out _).mono ?_
    rintro e x5 ⟨rfl, hx⟩
    go_simp
    refine hK.out _ _ (by obtain ⟨g0, g1, g2, g3, g4, g5⟩ := hHx4; exact ⟨keepB hx g0, keepB hx g1, keepB hx g2, keepB hx g3, keepB hx g4, keepB hx g5⟩) (fun hHx5 => ?_)
    have Ex5 := Lib.hid (bB hx Ex4.out.size Ex4.out)
    have R9 := Lib.hid (R8.out.below hx)
    clear R8
    clear hK K hHx4 Ex4 hx
    (try simp only [Act.put, List.setIfInBounds_toArray, List.set_cons_zero, List.set_cons_succ])
    as_aux_lemma =>
    refine wpAnyH_ready (rs := [26]) (by kernel_rfl) (by simp) ?_
    refine AllReadyH.cons rfl (fun K hK => ?_) AllReadyH.nil
    go_simp
    refine (HEM.out _).mono ?_
    rintro e x6 ⟨rfl, hx⟩
    go_simp
    refine hK.out _ _ (by obtain ⟨g0, g1, g2, g3, g4, g5⟩ := hHx5; exact ⟨keepB hx g0, keepB hx g1, keepB hx g2, keepB hx g3, keepB hx g4, keepB hx g5⟩) (fun hHx6 => ?_)
    have Ex6 := Lib.hid (bB hx Ex5.out.size Ex5.out)
    have R10 := Lib.hid (R9.out.below hx)
    clear R9
    clear hK K hHx5 Ex5 hx
    (try simp only [Act.put, List.setIfInBounds_toArray, List.set_cons_zero, List.set_cons_succ])
    as_aux_lemma =>
    refine wpAnyH_take (i := 27) (oi := { dst := some 72, op := _, type := _, pos := _, after := _, guard := _ }) (v := .bool false) rfl (by kernel_rfl) (by kernel_rfl) (by kernel_rfl) (fun _ _ _ h => h) (Or.inl ⟨by rfl, ?_⟩) (by assumption) ?_
    · (intro w' hSw; (try dsimp only at hSw); obtain ⟨hS0, hS1, hS2, hS3, hS4, hS5⟩ := hSw; go_simp)
    (try simp only [Act.put, List.setIfInBounds_toArray, List.set_cons_zero, List.set_cons_succ])
    refine wpAnyH_take (i := 28) (oi := { dst := some 73, op := _, type := _, pos := _, after := _, guard := _ }) (v := .bool false) rfl (by kernel_rfl) (by kernel_rfl) (by kernel_rfl) (fun _ _ _ h => h) (Or.inl ⟨by rfl, ?_⟩) (by assumption) ?_
    · (intro w' hSw; (try dsimp only at hSw); obtain ⟨hS0, hS1, hS2, hS3, hS4, hS5⟩ := hSw; go_simp)
    (try simp only [Act.put, List.setIfInBounds_toArray, List.set_cons_zero, List.set_cons_succ])
    obtain ⟨f0, f1, g0, g1, h0, h1⟩ := hHx6
    refine wpAnyH_done (by kernel_rfl) ?_ _
    have hz3 : w3.heap.size < x6.heap.size := World.block_lt_of_cell? _ ⟨w3.heap.size, 0, none⟩ h0
    have hz2 : w2.heap.size < x6.heap.size := World.block_lt_of_cell? _ ⟨w2.heap.size, 0, none⟩ g0
    have hz1 : w1.heap.size < x6.heap.size := World.block_lt_of_cell? _ ⟨w1.heap.size, 0, none⟩ f0
    clear hs14 hs24 hs34
    go_upto_if 74 with fail
    go_cut [2] (fun s wx => Below W.heap.size W wx)
    case first =>
      as_aux_lemma =>
      cases hT : isT n a with
      | false =>
        have e := HT.out
        rw [anfT_no hT] at e
        obtain ⟨e1, e2⟩ := Prod.mk.inj e
        obtain ⟨e2, e3⟩ := Prod.mk.inj e2
        subst e3
        clear e e1 e2 hT
        go_wp2_with fail
        go_meet
        exact Ex6.out
      | true =>
        obtain ⟨N, A, rfl, rfl, hn, ha⟩ := isT_nat hT
        have e := HT.out
        rw [anfT_yes hT] at e
        obtain ⟨e1, e2⟩ := Prod.mk.inj e
        obtain ⟨e2, e3⟩ := Prod.mk.inj e2
        subst e1 e2 e3
        clear e
        have hfl := fullN_le N hn
        have hw := fullN_lt A ha
        have hab : (A : Int) ≤ 4294967295 := by omega
        have hhb : (anW N A : Int) ≤ 4294967295 := by have := anW_le N A; omega
        have LD := law_deg hn hT hw
        rw [HD1.out, HD2.out] at LD
        obtain ⟨q, hq⟩ : ∃ q, cntT N A = q := ⟨_, rfl⟩
        rw [hq] at LD HCT
        have HBK := Lib.hid (Anf.impl_yes N (anW N A) hn hhb (isT_yes hn (anW_le N A)))
        rw [anW_back hn hw] at HBK
        have hlq := HLQ.out
        rw [recT_yes hT] at hlq
        have hll : l.length = 2 ^ N := by rw [← hlq, reL_len]
        have hNN := two_pow_le N hn
        obtain ⟨r, _, hTI, hTC⟩ := Toc.both l (by rw [hll]; omega)
        have hr : r = ((N : Int), (A : Int), true) := toc_back hn hw (by rw [hlq]; exact hTC N hn hll)
        subst hr
        have HTO := Lib.hid hTI
        rw [fmT_yes hT] at HFI HFM
        have hpb := pafT_back hn ha
        obtain ⟨t, ht⟩ : ∃ t : ByteArray, (⟨(fmA N A).toArray⟩ : ByteArray) = t := ⟨_, rfl⟩
        have hpt : pafT N t.data.toList = ((N : Int), (A : Int), true) := by rw [← ht]; exact hpb
        rw [ht] at HFI HFM
        have HPI := Lib.hid (Paf.I (N : Int) t)
        rw [hpt] at HPI
        have HVA := Lib.hid (fun m => Tab.valI (N : Int) (anW N A : Int) m (by omega))
        have HODD : Hid (∀ m, m < l.length → ((Int.tmod (l.getD m 0) 2 != 0) != (valAt (N : Int) (anW N A : Int) (m : Int) == 1)) = false) := Lib.hid (fun m hm => by
          rw [← hlq, reL_at (by omega)]
          exact LD.odd m (by omega))
        have HBD : Hid (∀ m, m < l.length → -32 ≤ l.getD m 0 ∧ l.getD m 0 ≤ 32) := Lib.hid (fun m hm => by
          rw [← hlq, reL_at (by omega)]
          exact reZ_bound hn (by omega))
        have hle := LD.le
        have HFUL : Hid ((d1 == (N : Int)) = (Int.tmod q 2 == 1)) := Lib.hid (by have := LD.full; revert this; cases (d1 == (N : Int)) <;> cases (Int.tmod q 2 == 1) <;> decide)
        have hpos : 0 < l.length := by rw [hll]; exact Nat.two_pow_pos _
        obtain ⟨s1, s2⟩ := same_str t
        obtain ⟨v1, v2⟩ := same_int (N : Int)
        obtain ⟨v3, v4⟩ := same_int (A : Int)
        generalize anW N A = H at *
        have hNz : (N : Int) ≤ 5 := by omega
        clear LD hT hn ha hw hab hhb hlq hTI hTC hpb ht hpt hq hll hNN hfl HT HD1 HD2 HLQ HAI HAM HRI HRM HDM HEM HROK t3a t3b u3a u3b u4a u4b g0 g1 hz2
        go_wp2_with fail
        refine (HBK.out _).mono ?_
        rintro e y1 ⟨rfl, hb⟩
        have Sy1 := Lib.hid (bB hb Ex6.out.size Ex6.out)
        replace f0 := keepB hb f0
        replace f1 := keepB hb f1
        replace h0 := keepB hb h0
        replace h1 := keepB hb h1
        replace R10 := Lib.hid (R10.out.below hb)
        clear hb Ex6
        have Sy1a := Lib.hid (bA Sy1.out.size Sy1.out (o := .cells #[.int .i64 N, .int .i64 A] 25))
        replace f0 := keepA (o := .cells #[.int .i64 N, .int .i64 A] 25) f0
        replace f1 := keepA (o := .cells #[.int .i64 N, .int .i64 A] 25) f1
        replace h0 := keepA (o := .cells #[.int .i64 N, .int .i64 A] 25) h0
        replace h1 := keepA (o := .cells #[.int .i64 N, .int .i64 A] 25) h1
        replace R10 := Lib.hid (R10.out.below (bA (Nat.le_refl _) (Below.refl _ _) (o := .cells #[.int .i64 N, .int .i64 A] 25)))
        have b0 : (y1.alloc (.cells #[.int .i64 N, .int .i64 A] 25)).cell? ⟨y1.heap.size, 0, none⟩ = some (.int .i64 N) := keepN rfl rfl
        have b1 : (y1.alloc (.cells #[.int .i64 N, .int .i64 A] 25)).cell? ⟨y1.heap.size, 1, none⟩ = some (.int .i64 A) := keepN rfl rfl
        clear Sy1
        have hza0 : w1.heap.size < (y1.alloc (.cells #[.int .i64 N, .int .i64 A] 25)).heap.size := World.block_lt_of_cell? _ ⟨w1.heap.size, 0, none⟩ f0
        have hza1 : w3.heap.size < (y1.alloc (.cells #[.int .i64 N, .int .i64 A] 25)).heap.size := World.block_lt_of_cell? _ ⟨w3.heap.size, 0, none⟩ h0
        have hza2 : y1.heap.size < (y1.alloc (.cells #[.int .i64 N, .int .i64 A] 25)).heap.size := World.block_lt_of_cell? _ ⟨y1.heap.size, 0, none⟩ b0
        clear hz1 hz3
        go_wp2_with fail
        refine (HTO.out _ _ R10.out (TZ.out.stays Sy1a.out (Nat.le_refl _))).mono ?_
        rintro e y2 ⟨rfl, hb⟩
        have Sy2 := Lib.hid (bB hb Sy1a.out.size Sy1a.out)
        replace f0 := keepB hb f0
        replace f1 := keepB hb f1
        replace h0 := keepB hb h0
        replace h1 := keepB hb h1
        replace b0 := keepB hb b0
        replace b1 := keepB hb b1
        replace R10 := Lib.hid (R10.out.below hb)
        clear hb Sy1a
        have Sy2a := Lib.hid (bA Sy2.out.size Sy2.out (o := .cells #[.int .i64 N, .int .i64 A] 25))
        replace f0 := keepA (o := .cells #[.int .i64 N, .int .i64 A] 25) f0
        replace f1 := keepA (o := .cells #[.int .i64 N, .int .i64 A] 25) f1
        replace h0 := keepA (o := .cells #[.int .i64 N, .int .i64 A] 25) h0
        replace h1 := keepA (o := .cells #[.int .i64 N, .int .i64 A] 25) h1
        replace b0 := keepA (o := .cells #[.int .i64 N, .int .i64 A] 25) b0
        replace b1 := keepA (o := .cells #[.int .i64 N, .int .i64 A] 25) b1
        replace R10 := Lib.hid (R10.out.below (bA (Nat.le_refl _) (Below.refl _ _) (o := .cells #[.int .i64 N, .int .i64 A] 25)))
        have c0 : (y2.alloc (.cells #[.int .i64 N, .int .i64 A] 25)).cell? ⟨y2.heap.size, 0, none⟩ = some (.int .i64 N) := keepN rfl rfl
        have c1 : (y2.alloc (.cells #[.int .i64 N, .int .i64 A] 25)).cell? ⟨y2.heap.size, 1, none⟩ = some (.int .i64 A) := keepN rfl rfl
        clear Sy2
        go_wp2_with fail
        refine (HFI.out _).mono ?_
        rintro e y3 ⟨rfl, hb⟩
        have Sy3 := Lib.hid (bB hb Sy2a.out.size Sy2a.out)
        replace f0 := keepB hb f0
        replace f1 := keepB hb f1
        replace h0 := keepB hb h0
        replace h1 := keepB hb h1
        replace b0 := keepB hb b0
        replace b1 := keepB hb b1
        replace c0 := keepB hb c0
        replace c1 := keepB hb c1
        replace R10 := Lib.hid (R10.out.below hb)
        clear hb Sy2a
        go_wp2_with fail
        refine (HPI.out _ (ML.out.below Sy3.out)).mono ?_
        rintro e y4 ⟨rfl, hb⟩
        have Sy4 := Lib.hid (bB hb Sy3.out.size Sy3.out)
        replace f0 := keepB hb f0
        replace f1 := keepB hb f1
        replace h0 := keepB hb h0
        replace h1 := keepB hb h1
        replace b0 := keepB hb b0
        replace b1 := keepB hb b1
        replace c0 := keepB hb c0
        replace c1 := keepB hb c1
        replace R10 := Lib.hid (R10.out.below hb)
        clear hb Sy3
        have Sy4a := Lib.hid (bA Sy4.out.size Sy4.out (o := .cells #[.int .i64 N, .int .i64 A] 25))
        replace f0 := keepA (o := .cells #[.int .i64 N, .int .i64 A] 25) f0
        replace f1 := keepA (o := .cells #[.int .i64 N, .int .i64 A] 25) f1
        replace h0 := keepA (o := .cells #[.int .i64 N, .int .i64 A] 25) h0
        replace h1 := keepA (o := .cells #[.int .i64 N, .int .i64 A] 25) h1
        replace b0 := keepA (o := .cells #[.int .i64 N, .int .i64 A] 25) b0
        replace b1 := keepA (o := .cells #[.int .i64 N, .int .i64 A] 25) b1
        replace c0 := keepA (o := .cells #[.int .i64 N, .int .i64 A] 25) c0
        replace c1 := keepA (o := .cells #[.int .i64 N, .int .i64 A] 25) c1
        replace R10 := Lib.hid (R10.out.below (bA (Nat.le_refl _) (Below.refl _ _) (o := .cells #[.int .i64 N, .int .i64 A] 25)))
        have k0 : (y4.alloc (.cells #[.int .i64 N, .int .i64 A] 25)).cell? ⟨y4.heap.size, 0, none⟩ = some (.int .i64 N) := keepN rfl rfl
        have k1 : (y4.alloc (.cells #[.int .i64 N, .int .i64 A] 25)).cell? ⟨y4.heap.size, 1, none⟩ = some (.int .i64 A) := keepN rfl rfl
        clear Sy4
        have hzb0 : w1.heap.size < (y4.alloc (.cells #[.int .i64 N, .int .i64 A] 25)).heap.size := World.block_lt_of_cell? _ ⟨w1.heap.size, 0, none⟩ f0
        have hzb1 : w3.heap.size < (y4.alloc (.cells #[.int .i64 N, .int .i64 A] 25)).heap.size := World.block_lt_of_cell? _ ⟨w3.heap.size, 0, none⟩ h0
        have hzb2 : y1.heap.size < (y4.alloc (.cells #[.int .i64 N, .int .i64 A] 25)).heap.size := World.block_lt_of_cell? _ ⟨y1.heap.size, 0, none⟩ b0
        have hzb3 : y2.heap.size < (y4.alloc (.cells #[.int .i64 N, .int .i64 A] 25)).heap.size := World.block_lt_of_cell? _ ⟨y2.heap.size, 0, none⟩ c0
        have hzb4 : y4.heap.size < (y4.alloc (.cells #[.int .i64 N, .int .i64 A] 25)).heap.size := World.block_lt_of_cell? _ ⟨y4.heap.size, 0, none⟩ k0
        clear hza0 hza1 hza2
        go_wp2_with fail
        refine wp_region_held_drew (S := fun w' => w'.cell? ⟨w1.heap.size, 0, none⟩ = some (.int .i64 N) ∧ w'.cell? ⟨w1.heap.size, 1, none⟩ = some (.int .i64 A) ∧ w'.cell? ⟨w3.heap.size, 0, none⟩ = some (.int .i64 N) ∧ w'.cell? ⟨w3.heap.size, 1, none⟩ = some (.int .i64 H) ∧ w'.cell? ⟨y1.heap.size, 0, none⟩ = some (.int .i64 N) ∧ w'.cell? ⟨y1.heap.size, 1, none⟩ = some (.int .i64 A) ∧ w'.cell? ⟨y2.heap.size, 0, none⟩ = some (.int .i64 N) ∧ w'.cell? ⟨y2.heap.size, 1, none⟩ = some (.int .i64 A) ∧ w'.cell? ⟨y4.heap.size, 0, none⟩ = some (.int .i64 N) ∧ w'.cell? ⟨y4.heap.size, 1, none⟩ = some (.int .i64 A)) (by kernel_rfl) ⟨keepD f0, keepD f1, keepD h0, keepD h1, keepD b0, keepD b1, keepD c0, keepD c1, keepD k0, keepD k1⟩ (fun hHeld => ?_)
        have Sy4ar := Lib.hid (bD Sy4a.out)
        refine wpAnyH_take (i := 0) (oi := { dst := some 94, op := _, type := _, pos := _, after := _, guard := _ }) (v := .agg #[.int .i64 N, .int .i64 A]) rfl (by kernel_rfl) (by kernel_rfl) (by kernel_rfl) (fun _ _ _ h => h) (Or.inl ⟨by rfl, ?_⟩) (by assumption) ?_
        · (intro w' hSw; (try dsimp only at hSw); obtain ⟨hS0, hS1, hS2, hS3, hS4, hS5, hS6, hS7, hS8, hS9⟩ := hSw; go_simp)
        (try simp only [Act.put, List.setIfInBounds_toArray, List.set_cons_zero, List.set_cons_succ])
        refine wpAnyH_take (i := 1) (oi := { dst := some 95, op := _, type := _, pos := _, after := _, guard := _ }) (v := .agg #[.int .i64 N, .int .i64 A]) rfl (by kernel_rfl) (by kernel_rfl) (by kernel_rfl) (fun _ _ _ h => h) (Or.inl ⟨by rfl, ?_⟩) (by assumption) ?_
        · (intro w' hSw; (try dsimp only at hSw); obtain ⟨hS0, hS1, hS2, hS3, hS4, hS5, hS6, hS7, hS8, hS9⟩ := hSw; go_simp)
        (try simp only [Act.put, List.setIfInBounds_toArray, List.set_cons_zero, List.set_cons_succ])
        refine wpAnyH_take (i := 2) (oi := { dst := some 96, op := _, type := _, pos := _, after := _, guard := _ }) (v := .bool false) rfl (by kernel_rfl) (by kernel_rfl) (by kernel_rfl) (fun _ _ _ h => h) (Or.inl ⟨by rfl, ?_⟩) (by assumption) ?_
        · (intro w' hSw; (try dsimp only at hSw); obtain ⟨hS0, hS1, hS2, hS3, hS4, hS5, hS6, hS7, hS8, hS9⟩ := hSw; go_simp)
        (try simp only [Act.put, List.setIfInBounds_toArray, List.set_cons_zero, List.set_cons_succ])
        refine wpAnyH_take (i := 3) (oi := { dst := some 97, op := _, type := _, pos := _, after := _, guard := _ }) (v := .bool false) rfl (by kernel_rfl) (by kernel_rfl) (by kernel_rfl) (fun _ _ _ h => h) (Or.inl ⟨by rfl, ?_⟩) (by assumption) ?_
        · (intro w' hSw; (try dsimp only at hSw); obtain ⟨hS0, hS1, hS2, hS3, hS4, hS5, hS6, hS7, hS8, hS9⟩ := hSw; go_simp)
        (try simp only [Act.put, List.setIfInBounds_toArray, List.set_cons_zero, List.set_cons_succ])
        refine wpAnyH_take (i := 4) (oi := { dst := some 98, op := _, type := _, pos := _, after := _, guard := _ }) (v := .bool true) rfl (by kernel_rfl) (by kernel_rfl) (by kernel_rfl) (fun _ _ _ h => h) (Or.inl ⟨by rfl, ?_⟩) (by assumption) ?_
        · (intro w' hSw; (try dsimp only at hSw); obtain ⟨hS0, hS1, hS2, hS3, hS4, hS5, hS6, hS7, hS8, hS9⟩ := hSw; go_simp)
        (try simp only [Act.put, List.setIfInBounds_toArray, List.set_cons_zero, List.set_cons_succ])
        refine wpAnyH_take (i := 5) (oi := { dst := some 99, op := _, type := _, pos := _, after := _, guard := _ }) (v := .bool false) rfl (by kernel_rfl) (by kernel_rfl) (by kernel_rfl) (fun _ _ _ h => h) (Or.inl ⟨by rfl, ?_⟩) (by assumption) ?_
        · (intro w' hSw; (try dsimp only at hSw); obtain ⟨hS0, hS1, hS2, hS3, hS4, hS5, hS6, hS7, hS8, hS9⟩ := hSw; go_simp)
        (try simp only [Act.put, List.setIfInBounds_toArray, List.set_cons_zero, List.set_cons_succ])
        refine wpAnyH_take (i := 6) (oi := { dst := some 100, op := _, type := _, pos := _, after := _, guard := _ }) (v := .bool false) rfl (by kernel_rfl) (by kernel_rfl) (by kernel_rfl) (fun _ _ _ h => h) (Or.inl ⟨by rfl, ?_⟩) (by assumption) ?_
        · (intro w' hSw; (try dsimp only at hSw); obtain ⟨hS0, hS1, hS2, hS3, hS4, hS5, hS6, hS7, hS8, hS9⟩ := hSw; go_simp)
        (try simp only [Act.put, List.setIfInBounds_toArray, List.set_cons_zero, List.set_cons_succ])
        refine wpAnyH_take (i := 7) (oi := { dst := some 101, op := _, type := _, pos := _, after := _, guard := _ }) (v := .bool false) rfl (by kernel_rfl) (by kernel_rfl) (by kernel_rfl) (fun _ _ _ h => h) (Or.inl ⟨by rfl, ?_⟩) (by assumption) ?_
        · (intro w' hSw; (try dsimp only at hSw); obtain ⟨hS0, hS1, hS2, hS3, hS4, hS5, hS6, hS7, hS8, hS9⟩ := hSw; go_simp)
        (try simp only [Act.put, List.setIfInBounds_toArray, List.set_cons_zero, List.set_cons_succ])
        refine wpAnyH_take (i := 8) (oi := { dst := some 102, op := _, type := _, pos := _, after := _, guard := _ }) (v := .agg #[.int .i64 N, .int .i64 A]) rfl (by kernel_rfl) (by kernel_rfl) (by kernel_rfl) (fun _ _ _ h => h) (Or.inl ⟨by rfl, ?_⟩) (by assumption) ?_
        · (intro w' hSw; (try dsimp only at hSw); obtain ⟨hS0, hS1, hS2, hS3, hS4, hS5, hS6, hS7, hS8, hS9⟩ := hSw; go_simp)
        (try simp only [Act.put, List.setIfInBounds_toArray, List.set_cons_zero, List.set_cons_succ])
        refine wpAnyH_take (i := 9) (oi := { dst := some 103, op := _, type := _, pos := _, after := _, guard := _ }) (v := .agg #[.int .i64 N, .int .i64 A]) rfl (by kernel_rfl) (by kernel_rfl) (by kernel_rfl) (fun _ _ _ h => h) (Or.inl ⟨by rfl, ?_⟩) (by assumption) ?_
        · (intro w' hSw; (try dsimp only at hSw); obtain ⟨hS0, hS1, hS2, hS3, hS4, hS5, hS6, hS7, hS8, hS9⟩ := hSw; go_simp)
        (try simp only [Act.put, List.setIfInBounds_toArray, List.set_cons_zero, List.set_cons_succ])
        refine wpAnyH_take (i := 10) (oi := { dst := some 104, op := _, type := _, pos := _, after := _, guard := _ }) (v := .bool false) rfl (by kernel_rfl) (by kernel_rfl) (by kernel_rfl) (fun _ _ _ h => h) (Or.inl ⟨by rfl, ?_⟩) (by assumption) ?_
        · (intro w' hSw; (try dsimp only at hSw); obtain ⟨hS0, hS1, hS2, hS3, hS4, hS5, hS6, hS7, hS8, hS9⟩ := hSw; go_simp)
        (try simp only [Act.put, List.setIfInBounds_toArray, List.set_cons_zero, List.set_cons_succ])
        refine wpAnyH_take (i := 11) (oi := { dst := some 105, op := _, type := _, pos := _, after := _, guard := _ }) (v := .bool false) rfl (by kernel_rfl) (by kernel_rfl) (by kernel_rfl) (fun _ _ _ h => h) (Or.inl ⟨by rfl, ?_⟩) (by assumption) ?_
        · (intro w' hSw; (try dsimp only at hSw); obtain ⟨hS0, hS1, hS2, hS3, hS4, hS5, hS6, hS7, hS8, hS9⟩ := hSw; go_simp)
        (try simp only [Act.put, List.setIfInBounds_toArray, List.set_cons_zero, List.set_cons_succ])
        refine wpAnyH_take (i := 12) (oi := { dst := some 106, op := _, type := _, pos := _, after := _, guard := _ }) (v := .bool false) rfl (by kernel_rfl) (by kernel_rfl) (by kernel_rfl) (fun _ _ _ h => h) (Or.inl ⟨by rfl, ?_⟩) (by assumption) ?_
        · (intro w' hSw; (try dsimp only at hSw); obtain ⟨hS0, hS1, hS2, hS3, hS4, hS5, hS6, hS7, hS8, hS9⟩ := hSw; go_simp)
        (try simp only [Act.put, List.setIfInBounds_toArray, List.set_cons_zero, List.set_cons_succ])
        refine wpAnyH_take (i := 13) (oi := { dst := some 107, op := _, type := _, pos := _, after := _, guard := _ }) (v := .bool true) rfl (by kernel_rfl) (by kernel_rfl) (by kernel_rfl) (fun _ _ _ h => h) (Or.inl ⟨by rfl, ?_⟩) (by assumption) ?_
        · (intro w' hSw; (try dsimp only at hSw); obtain ⟨hS0, hS1, hS2, hS3, hS4, hS5, hS6, hS7, hS8, hS9⟩ := hSw; go_simp)
        (try simp only [Act.put, List.setIfInBounds_toArray, List.set_cons_zero, List.set_cons_succ])
        refine wpAnyH_take (i := 14) (oi := { dst := some 108, op := _, type := _, pos := _, after := _, guard := _ }) (v := .bool false) rfl (by kernel_rfl) (by kernel_rfl) (by kernel_rfl) (fun _ _ _ h => h) (Or.inl ⟨by rfl, ?_⟩) (by assumption) ?_
        · (intro w' hSw; (try dsimp only at hSw); obtain ⟨hS0, hS1, hS2, hS3, hS4, hS5, hS6, hS7, hS8, hS9⟩ := hSw; go_simp)
        (try simp only [Act.put, List.setIfInBounds_toArray, List.set_cons_zero, List.set_cons_succ])
        refine wpAnyH_take (i := 15) (oi := { dst := some 109, op := _, type := _, pos := _, after := _, guard := _ }) (v := .bool false) rfl (by kernel_rfl) (by kernel_rfl) (by kernel_rfl) (fun _ _ _ h => h) (Or.inl ⟨by rfl, ?_⟩) (by assumption) ?_
        · (intro w' hSw; (try dsimp only at hSw); obtain ⟨hS0, hS1, hS2, hS3, hS4, hS5, hS6, hS7, hS8, hS9⟩ := hSw; go_simp)
        (try simp only [Act.put, List.setIfInBounds_toArray, List.set_cons_zero, List.set_cons_succ])
        refine wpAnyH_take (i := 16) (oi := { dst := some 110, op := _, type := _, pos := _, after := _, guard := _ }) (v := .bool false) rfl (by kernel_rfl) (by kernel_rfl) (by kernel_rfl) (fun _ _ _ h => h) (Or.inl ⟨by rfl, ?_⟩) (by assumption) ?_
        · (intro w' hSw; (try dsimp only at hSw); obtain ⟨hS0, hS1, hS2, hS3, hS4, hS5, hS6, hS7, hS8, hS9⟩ := hSw; go_simp)
        (try simp only [Act.put, List.setIfInBounds_toArray, List.set_cons_zero, List.set_cons_succ])
        refine wpAnyH_take (i := 17) (oi := { dst := some 111, op := _, type := _, pos := _, after := _, guard := _ }) (v := .agg #[.int .i64 N, .int .i64 A]) rfl (by kernel_rfl) (by kernel_rfl) (by kernel_rfl) (fun _ _ _ h => h) (Or.inl ⟨by rfl, ?_⟩) (by assumption) ?_
        · (intro w' hSw; (try dsimp only at hSw); obtain ⟨hS0, hS1, hS2, hS3, hS4, hS5, hS6, hS7, hS8, hS9⟩ := hSw; go_simp)
        (try simp only [Act.put, List.setIfInBounds_toArray, List.set_cons_zero, List.set_cons_succ])
        refine wpAnyH_take (i := 18) (oi := { dst := some 112, op := _, type := _, pos := _, after := _, guard := _ }) (v := .agg #[.int .i64 N, .int .i64 A]) rfl (by kernel_rfl) (by kernel_rfl) (by kernel_rfl) (fun _ _ _ h => h) (Or.inl ⟨by rfl, ?_⟩) (by assumption) ?_
        · (intro w' hSw; (try dsimp only at hSw); obtain ⟨hS0, hS1, hS2, hS3, hS4, hS5, hS6, hS7, hS8, hS9⟩ := hSw; go_simp)
        (try simp only [Act.put, List.setIfInBounds_toArray, List.set_cons_zero, List.set_cons_succ])
        refine wpAnyH_take (i := 19) (oi := { dst := some 113, op := _, type := _, pos := _, after := _, guard := _ }) (v := .bool false) rfl (by kernel_rfl) (by kernel_rfl) (by kernel_rfl) (fun _ _ _ h => h) (Or.inl ⟨by rfl, ?_⟩) (by assumption) ?_
        · (intro w' hSw; (try dsimp only at hSw); obtain ⟨hS0, hS1, hS2, hS3, hS4, hS5, hS6, hS7, hS8, hS9⟩ := hSw; go_simp)
        (try simp only [Act.put, List.setIfInBounds_toArray, List.set_cons_zero, List.set_cons_succ])
        refine wpAnyH_take (i := 20) (oi := { dst := some 114, op := _, type := _, pos := _, after := _, guard := _ }) (v := .bool false) rfl (by kernel_rfl) (by kernel_rfl) (by kernel_rfl) (fun _ _ _ h => h) (Or.inl ⟨by rfl, ?_⟩) (by assumption) ?_
        · (intro w' hSw; (try dsimp only at hSw); obtain ⟨hS0, hS1, hS2, hS3, hS4, hS5, hS6, hS7, hS8, hS9⟩ := hSw; go_simp)
        (try simp only [Act.put, List.setIfInBounds_toArray, List.set_cons_zero, List.set_cons_succ])
        refine wpAnyH_take (i := 21) (oi := { dst := some 115, op := _, type := _, pos := _, after := _, guard := _ }) (v := .bool false) rfl (by kernel_rfl) (by kernel_rfl) (by kernel_rfl) (fun _ _ _ h => h) (Or.inl ⟨by rfl, ?_⟩) (by assumption) ?_
        · (intro w' hSw; (try dsimp only at hSw); obtain ⟨hS0, hS1, hS2, hS3, hS4, hS5, hS6, hS7, hS8, hS9⟩ := hSw; go_simp)
        (try simp only [Act.put, List.setIfInBounds_toArray, List.set_cons_zero, List.set_cons_succ])
        refine wpAnyH_take (i := 22) (oi := { dst := some 116, op := _, type := _, pos := _, after := _, guard := _ }) (v := .string t) rfl (by kernel_rfl) (by kernel_rfl) (by kernel_rfl) (fun _ _ _ h => h) (Or.inl ⟨by rfl, ?_⟩) (by assumption) ?_
        · (intro w' hSw; (try dsimp only at hSw); obtain ⟨hS0, hS1, hS2, hS3, hS4, hS5, hS6, hS7, hS8, hS9⟩ := hSw; go_simp)
        (try simp only [Act.put, List.setIfInBounds_toArray, List.set_cons_zero, List.set_cons_succ])
        refine wpAnyH_take (i := 23) (oi := { dst := some 117, op := _, type := _, pos := _, after := _, guard := _ }) (v := .agg #[.int .i64 N, .int .i64 A]) rfl (by kernel_rfl) (by kernel_rfl) (by kernel_rfl) (fun _ _ _ h => h) (Or.inl ⟨by rfl, ?_⟩) (by assumption) ?_
        · (intro w' hSw; (try dsimp only at hSw); obtain ⟨hS0, hS1, hS2, hS3, hS4, hS5, hS6, hS7, hS8, hS9⟩ := hSw; go_simp)
        (try simp only [Act.put, List.setIfInBounds_toArray, List.set_cons_zero, List.set_cons_succ])
        refine wpAnyH_ready (rs := [24]) (by kernel_rfl) (by simp) ?_
        refine AllReadyH.cons rfl (fun K hK => ?_) AllReadyH.nil
        go_simp
        refine (HFM.out _).mono ?_
        rintro e z1 ⟨rfl, hx⟩
        go_simp
        refine hK.out _ _ (by obtain ⟨g0, g1, g2, g3, g4, g5, g6, g7, g8, g9⟩ := hHeld; exact ⟨keepB hx g0, keepB hx g1, keepB hx g2, keepB hx g3, keepB hx g4, keepB hx g5, keepB hx g6, keepB hx g7, keepB hx g8, keepB hx g9⟩) (fun hHz1 => ?_)
        have Ez1 := Lib.hid (bB hx Sy4ar.out.size Sy4ar.out)
        have R11 := Lib.hid ((R10.out.below (Below.refl _ _).drew).below hx)
        clear R10
        clear hK K hHeld Sy4ar hx
        (try simp only [Act.put, List.setIfInBounds_toArray, List.set_cons_zero, List.set_cons_succ])
        as_aux_lemma =>
        refine wpAnyH_take (i := 25) (oi := { dst := some 119, op := _, type := _, pos := _, after := _, guard := _ }) (v := .bool false) rfl (by kernel_rfl) (by kernel_rfl) (by kernel_rfl) (fun _ _ _ h => h) (Or.inl ⟨by rfl, ?_⟩) (by assumption) ?_
        · (intro w' hSw; (try dsimp only at hSw); obtain ⟨hS0, hS1, hS2, hS3, hS4, hS5, hS6, hS7, hS8, hS9⟩ := hSw; go_simp)
        (try simp only [Act.put, List.setIfInBounds_toArray, List.set_cons_zero, List.set_cons_succ])
        refine wpAnyH_take (i := 26) (oi := { dst := some 120, op := _, type := _, pos := _, after := _, guard := _ }) (v := .bool false) rfl (by kernel_rfl) (by kernel_rfl) (by kernel_rfl) (fun _ _ _ h => h) (Or.inl ⟨by rfl, ?_⟩) (by assumption) ?_
        · (intro w' hSw; (try dsimp only at hSw); obtain ⟨hS0, hS1, hS2, hS3, hS4, hS5, hS6, hS7, hS8, hS9⟩ := hSw; go_simp)
        (try simp only [Act.put, List.setIfInBounds_toArray, List.set_cons_zero, List.set_cons_succ])
        refine wpAnyH_take (i := 27) (oi := { dst := some 121, op := _, type := _, pos := _, after := _, guard := _ }) (v := .bool false) rfl (by kernel_rfl) (by kernel_rfl) (by kernel_rfl) (fun _ _ _ h => h) (Or.inl ⟨by rfl, ?_⟩) (by assumption) ?_
        · (intro w' hSw; (try dsimp only at hSw); obtain ⟨hS0, hS1, hS2, hS3, hS4, hS5, hS6, hS7, hS8, hS9⟩ := hSw; go_simp)
        (try simp only [Act.put, List.setIfInBounds_toArray, List.set_cons_zero, List.set_cons_succ])
        refine wpAnyH_take (i := 28) (oi := { dst := some 122, op := _, type := _, pos := _, after := _, guard := _ }) (v := .agg #[.int .i64 N, .int .i64 A]) rfl (by kernel_rfl) (by kernel_rfl) (by kernel_rfl) (fun _ _ _ h => h) (Or.inl ⟨by rfl, ?_⟩) (by assumption) ?_
        · (intro w' hSw; (try dsimp only at hSw); obtain ⟨hS0, hS1, hS2, hS3, hS4, hS5, hS6, hS7, hS8, hS9⟩ := hSw; go_simp)
        (try simp only [Act.put, List.setIfInBounds_toArray, List.set_cons_zero, List.set_cons_succ])
        refine wpAnyH_take (i := 30) (oi := { dst := some 124, op := _, type := _, pos := _, after := _, guard := _ }) (v := .agg #[.int .i64 N, .int .i64 A]) rfl (by kernel_rfl) (by kernel_rfl) (by kernel_rfl) (fun _ _ _ h => h) (Or.inl ⟨by rfl, ?_⟩) (by assumption) ?_
        · (intro w' hSw; (try dsimp only at hSw); obtain ⟨hS0, hS1, hS2, hS3, hS4, hS5, hS6, hS7, hS8, hS9⟩ := hSw; go_simp)
        (try simp only [Act.put, List.setIfInBounds_toArray, List.set_cons_zero, List.set_cons_succ])
        refine wpAnyH_ready (rs := [29]) (by kernel_rfl) (by simp) ?_
        refine AllReadyH.cons rfl (fun K hK => ?_) AllReadyH.nil
        go_simp
        refine (HDI.out _).mono ?_
        rintro e z2 ⟨rfl, hx⟩
        go_simp
        refine hK.out _ _ (by obtain ⟨g0, g1, g2, g3, g4, g5, g6, g7, g8, g9⟩ := hHz1; exact ⟨keepB hx g0, keepB hx g1, keepB hx g2, keepB hx g3, keepB hx g4, keepB hx g5, keepB hx g6, keepB hx g7, keepB hx g8, keepB hx g9⟩) (fun hHz2 => ?_)
        have Ez2 := Lib.hid (bB hx Ez1.out.size Ez1.out)
        have R12 := Lib.hid (R11.out.below hx)
        clear R11
        clear hK K hHz1 Ez1 hx
        (try simp only [Act.put, List.setIfInBounds_toArray, List.set_cons_zero, List.set_cons_succ])
        as_aux_lemma =>
        refine wpAnyH_ready (rs := [31]) (by kernel_rfl) (by simp) ?_
        refine AllReadyH.cons rfl (fun K hK => ?_) AllReadyH.nil
        go_simp
        refine (HEI.out _).mono ?_
        rintro e z3 ⟨rfl, hx⟩
        go_simp
        refine hK.out _ _ (by obtain ⟨g0, g1, g2, g3, g4, g5, g6, g7, g8, g9⟩ := hHz2; exact ⟨keepB hx g0, keepB hx g1, keepB hx g2, keepB hx g3, keepB hx g4, keepB hx g5, keepB hx g6, keepB hx g7, keepB hx g8, keepB hx g9⟩) (fun hHz3 => ?_)
        have Ez3 := Lib.hid (bB hx Ez2.out.size Ez2.out)
        have R13 := Lib.hid (R12.out.below hx)
        clear R12
        clear hK K hHz2 Ez2 hx
        (try simp only [Act.put, List.setIfInBounds_toArray, List.set_cons_zero, List.set_cons_succ])
        as_aux_lemma =>
        refine wpAnyH_take (i := 32) (oi := { dst := some 126, op := _, type := _, pos := _, after := _, guard := _ }) (v := .bool false) rfl (by kernel_rfl) (by kernel_rfl) (by kernel_rfl) (fun _ _ _ h => h) (Or.inl ⟨by rfl, ?_⟩) (by assumption) ?_
        · (intro w' hSw; (try dsimp only at hSw); obtain ⟨hS0, hS1, hS2, hS3, hS4, hS5, hS6, hS7, hS8, hS9⟩ := hSw; go_simp)
        (try simp only [Act.put, List.setIfInBounds_toArray, List.set_cons_zero, List.set_cons_succ])
        refine wpAnyH_take (i := 33) (oi := { dst := some 127, op := _, type := _, pos := _, after := _, guard := _ }) (v := .bool false) rfl (by kernel_rfl) (by kernel_rfl) (by kernel_rfl) (fun _ _ _ h => h) (Or.inl ⟨by rfl, ?_⟩) (by assumption) ?_
        · (intro w' hSw; (try dsimp only at hSw); obtain ⟨hS0, hS1, hS2, hS3, hS4, hS5, hS6, hS7, hS8, hS9⟩ := hSw; go_simp)
        (try simp only [Act.put, List.setIfInBounds_toArray, List.set_cons_zero, List.set_cons_succ])
        refine wpAnyH_take (i := 34) (oi := { dst := some 128, op := _, type := _, pos := _, after := _, guard := _ }) (v := .bool false) rfl (by kernel_rfl) (by kernel_rfl) (by kernel_rfl) (fun _ _ _ h => h) (Or.inl ⟨by rfl, ?_⟩) (by assumption) ?_
        · (intro w' hSw; (try dsimp only at hSw); obtain ⟨hS0, hS1, hS2, hS3, hS4, hS5, hS6, hS7, hS8, hS9⟩ := hSw; go_simp)
        (try simp only [Act.put, List.setIfInBounds_toArray, List.set_cons_zero, List.set_cons_succ])
        refine wpAnyH_take (i := 35) (oi := { dst := some 129, op := _, type := _, pos := _, after := _, guard := _ }) (v := .agg #[.int .i64 N, .int .i64 A]) rfl (by kernel_rfl) (by kernel_rfl) (by kernel_rfl) (fun _ _ _ h => h) (Or.inl ⟨by rfl, ?_⟩) (by assumption) ?_
        · (intro w' hSw; (try dsimp only at hSw); obtain ⟨hS0, hS1, hS2, hS3, hS4, hS5, hS6, hS7, hS8, hS9⟩ := hSw; go_simp)
        (try simp only [Act.put, List.setIfInBounds_toArray, List.set_cons_zero, List.set_cons_succ])
        refine wpAnyH_take (i := 37) (oi := { dst := some 131, op := _, type := _, pos := _, after := _, guard := _ }) (v := .pointer (some ⟨w1.heap.size, 0, none⟩)) rfl (by kernel_rfl) (by kernel_rfl) (by kernel_rfl) (fun _ _ _ h => h) (Or.inl ⟨by rfl, ?_⟩) (by assumption) ?_
        · (intro w' hSw; (try dsimp only at hSw); obtain ⟨hS0, hS1, hS2, hS3, hS4, hS5, hS6, hS7, hS8, hS9⟩ := hSw; go_simp)
        (try simp only [Act.put, List.setIfInBounds_toArray, List.set_cons_zero, List.set_cons_succ])
        refine wpAnyH_take (i := 38) (oi := { dst := some 132, op := _, type := _, pos := _, after := _, guard := _ }) (v := .int .i64 N) rfl (by kernel_rfl) (by kernel_rfl) (by kernel_rfl) (fun _ _ _ h => h) (Or.inl ⟨by rfl, ?_⟩) (by assumption) ?_
        · (intro w' hSw; (try dsimp only at hSw); obtain ⟨hS0, hS1, hS2, hS3, hS4, hS5, hS6, hS7, hS8, hS9⟩ := hSw; go_simp)
        (try simp only [Act.put, List.setIfInBounds_toArray, List.set_cons_zero, List.set_cons_succ])
        refine wpAnyH_take (i := 40) (oi := { dst := some 134, op := _, type := _, pos := _, after := _, guard := _ }) (v := .agg #[.int .i64 N, .int .i64 A]) rfl (by kernel_rfl) (by kernel_rfl) (by kernel_rfl) (fun _ _ _ h => h) (Or.inl ⟨by rfl, ?_⟩) (by assumption) ?_
        · (intro w' hSw; (try dsimp only at hSw); obtain ⟨hS0, hS1, hS2, hS3, hS4, hS5, hS6, hS7, hS8, hS9⟩ := hSw; go_simp)
        (try simp only [Act.put, List.setIfInBounds_toArray, List.set_cons_zero, List.set_cons_succ])
        refine wpAnyH_ready (rs := [36]) (by kernel_rfl) (by simp) ?_
        refine AllReadyH.cons rfl (fun K hK => ?_) AllReadyH.nil
        go_simp
        refine (HDI.out _).mono ?_
        rintro e z4 ⟨rfl, hx⟩
        go_simp
        refine hK.out _ _ (by obtain ⟨g0, g1, g2, g3, g4, g5, g6, g7, g8, g9⟩ := hHz3; exact ⟨keepB hx g0, keepB hx g1, keepB hx g2, keepB hx g3, keepB hx g4, keepB hx g5, keepB hx g6, keepB hx g7, keepB hx g8, keepB hx g9⟩) (fun hHz4 => ?_)
        have Ez4 := Lib.hid (bB hx Ez3.out.size Ez3.out)
        have R14 := Lib.hid (R13.out.below hx)
        clear R13
        clear hK K hHz3 Ez3 hx
        (try simp only [Act.put, List.setIfInBounds_toArray, List.set_cons_zero, List.set_cons_succ])
        as_aux_lemma =>
        refine wpAnyH_take (i := 39) (oi := { dst := some 133, op := _, type := _, pos := _, after := _, guard := _ }) (v := .bool (d1 == (N : Int))) rfl (by kernel_rfl) (by kernel_rfl) (by kernel_rfl) (fun _ _ _ h => h) (Or.inl ⟨by rfl, ?_⟩) (by assumption) ?_
        · (intro w' hSw; (try dsimp only at hSw); obtain ⟨hS0, hS1, hS2, hS3, hS4, hS5, hS6, hS7, hS8, hS9⟩ := hSw; go_simp)
        (try simp only [Act.put, List.setIfInBounds_toArray, List.set_cons_zero, List.set_cons_succ])
        refine wpAnyH_ready (rs := [41]) (by kernel_rfl) (by simp) ?_
        refine AllReadyH.cons rfl (fun K hK => ?_) AllReadyH.nil
        go_simp
        refine (HCT.out _).mono ?_
        rintro e z5 ⟨rfl, hx⟩
        go_simp
        refine hK.out _ _ (by obtain ⟨g0, g1, g2, g3, g4, g5, g6, g7, g8, g9⟩ := hHz4; exact ⟨keepB hx g0, keepB hx g1, keepB hx g2, keepB hx g3, keepB hx g4, keepB hx g5, keepB hx g6, keepB hx g7, keepB hx g8, keepB hx g9⟩) (fun hHz5 => ?_)
        have Ez5 := Lib.hid (bB hx Ez4.out.size Ez4.out)
        have R15 := Lib.hid (R14.out.below hx)
        clear R14
        clear hK K hHz4 Ez4 hx
        (try simp only [Act.put, List.setIfInBounds_toArray, List.set_cons_zero, List.set_cons_succ])
        as_aux_lemma =>
        refine wpAnyH_take (i := 42) (oi := { dst := some 136, op := _, type := _, pos := _, after := _, guard := _ }) (v := .int .i64 (Int.tmod q 2)) rfl (by kernel_rfl) (by kernel_rfl) (by kernel_rfl) (fun _ _ _ h => h) (Or.inl ⟨by rfl, ?_⟩) (by assumption) ?_
        · (intro w' hSw; (try dsimp only at hSw); obtain ⟨hS0, hS1, hS2, hS3, hS4, hS5, hS6, hS7, hS8, hS9⟩ := hSw; go_simp)
        (try simp only [Act.put, List.setIfInBounds_toArray, List.set_cons_zero, List.set_cons_succ])
        refine wpAnyH_take (i := 43) (oi := { dst := some 137, op := _, type := _, pos := _, after := _, guard := _ }) (v := .bool (Int.tmod q 2 == 1)) rfl (by kernel_rfl) (by kernel_rfl) (by kernel_rfl) (fun _ _ _ h => h) (Or.inl ⟨by rfl, ?_⟩) (by assumption) ?_
        · (intro w' hSw; (try dsimp only at hSw); obtain ⟨hS0, hS1, hS2, hS3, hS4, hS5, hS6, hS7, hS8, hS9⟩ := hSw; go_simp)
        (try simp only [Act.put, List.setIfInBounds_toArray, List.set_cons_zero, List.set_cons_succ])
        refine wpAnyH_take (i := 44) (oi := { dst := some 138, op := _, type := _, pos := _, after := _, guard := _ }) (v := .bool false) rfl (by kernel_rfl) (by kernel_rfl) (by kernel_rfl) (fun _ _ _ h => h) (Or.inl ⟨by rfl, ?_⟩) (by assumption) ?_
        · (intro w' hSw; (try dsimp only at hSw); obtain ⟨hS0, hS1, hS2, hS3, hS4, hS5, hS6, hS7, hS8, hS9⟩ := hSw; go_simp; exact HFUL.out)
        (try simp only [Act.put, List.setIfInBounds_toArray, List.set_cons_zero, List.set_cons_succ])
        refine wpAnyH_take (i := 45) (oi := { dst := some 139, op := _, type := _, pos := _, after := _, guard := _ }) (v := .bool false) rfl (by kernel_rfl) (by kernel_rfl) (by kernel_rfl) (fun _ _ _ h => h) (Or.inl ⟨by rfl, ?_⟩) (by assumption) ?_
        · (intro w' hSw; (try dsimp only at hSw); obtain ⟨hS0, hS1, hS2, hS3, hS4, hS5, hS6, hS7, hS8, hS9⟩ := hSw; go_simp)
        (try simp only [Act.put, List.setIfInBounds_toArray, List.set_cons_zero, List.set_cons_succ])
        obtain ⟨f0, f1, h0, h1, b0, b1, c0, c1, k0, k1⟩ := hHz5
        refine wpAnyH_done (by kernel_rfl) ?_ _
        have hz3 : w3.heap.size < z5.heap.size := World.block_lt_of_cell? _ ⟨w3.heap.size, 0, none⟩ h0
        clear hzb0 hzb1 hzb2 hzb3 hzb4 f0 f1 b0 b1 c0 c1 k0 k1
        obtain ⟨ad, cap, rfl, hl1, hl2, hrd⟩ := R15.out
        obtain ⟨bk, off, rfl, hbk, hcl⟩ := hrd hpos
        have HCL := Lib.hid hcl
        have HH0 := Lib.hid h0
        have HH1 := Lib.hid h1
        have hl32 : (l.length : Int) ≤ 2000000 := by omega
        clear hl1 hl2 hrd hcl h0 h1 R15
        go_wp2_with fail
        go_loopw [16] (fun i wr => ∃ m : Nat, i = .int .i64 (m : Int) ∧ m ≤ l.length ∧ Below z5.heap.size z5 wr) (fun i _ => l.length - (intOf i).toNat)
        case atStart => exact ⟨0, rfl, by omega, Below.refl _ _⟩
        case round =>
          obtain ⟨m, rfl, hm, hbel⟩ := hrel
          have BE := Lib.hid hbel
          have hs := hbel.size
          by_cases hlt : m < l.length
          · have hmz : (m : Int) < (l.length : Int) := by omega
            have ck := keepB hbel (HCL.out m hlt)
            have p0 := keepB hbel HH0.out
            have p1 := keepB hbel HH1.out
            have HOD : Hid ((Int.tmod (l.getD m 0) 2 != 0) = (valAt (N : Int) (H : Int) (m : Int) == 1)) := Lib.hid (by have := HODD.out m hlt; revert this; cases (Int.tmod (l.getD m 0) 2 != 0) <;> cases (valAt (N : Int) (H : Int) (m : Int) == 1) <;> decide)
            have hbd := HBD.out m hlt
            have HV := Lib.hid (HVA.out (m : Int))
            have hzr : w3.heap.size < wr.heap.size := World.block_lt_of_cell? _ ⟨w3.heap.size, 0, none⟩ p0
            generalize valAt (N : Int) (H : Int) (m : Int) = y at *
            generalize l.getD m 0 = z at *
            clear hbel
            go_wp2_with fail
            refine wp_region_held_drew (S := fun w' => w'.cell? ⟨w3.heap.size, 0, none⟩ = some (.int .i64 N) ∧ w'.cell? ⟨w3.heap.size, 1, none⟩ = some (.int .i64 H) ∧ w'.cell? ⟨bk, off + m, none⟩ = some (.int .i64 z)) (by kernel_rfl) ⟨keepD p0, keepD p1, keepD ck⟩ (fun hHeld => ?_)
            have BEr := Lib.hid (bD BE.out)
            refine wpAnyH_take (i := 0) (oi := { dst := some 146, op := _, type := _, pos := _, after := _, guard := _ }) (v := .slice (some ⟨bk, off, none⟩) l.length cap) rfl (by kernel_rfl) (by kernel_rfl) (by kernel_rfl) (fun _ _ _ h => h) (Or.inl ⟨by rfl, ?_⟩) (by assumption) ?_
            · (intro w' hSw; (try dsimp only at hSw); obtain ⟨hS0, hS1, hS2⟩ := hSw; go_simp)
            (try simp only [Act.put, List.setIfInBounds_toArray, List.set_cons_zero, List.set_cons_succ])
            refine wpAnyH_take (i := 1) (oi := { dst := some 147, op := _, type := _, pos := _, after := _, guard := _ }) (v := .int .i64 m) rfl (by kernel_rfl) (by kernel_rfl) (by kernel_rfl) (fun _ _ _ h => h) (Or.inl ⟨by rfl, ?_⟩) (by assumption) ?_
            · (intro w' hSw; (try dsimp only at hSw); obtain ⟨hS0, hS1, hS2⟩ := hSw; go_simp)
            (try simp only [Act.put, List.setIfInBounds_toArray, List.set_cons_zero, List.set_cons_succ])
            refine wpAnyH_take (i := 2) (oi := { dst := some 148, op := _, type := _, pos := _, after := _, guard := _ }) (v := .pointer (some ⟨bk, off + m, none⟩)) rfl (by kernel_rfl) (by kernel_rfl) (by kernel_rfl) (fun _ _ _ h => h) (Or.inl ⟨by rfl, ?_⟩) (by assumption) ?_
            · (intro w' hSw; (try dsimp only at hSw); obtain ⟨hS0, hS1, hS2⟩ := hSw; go_simp)
            (try simp only [Act.put, List.setIfInBounds_toArray, List.set_cons_zero, List.set_cons_succ])
            refine wpAnyH_take (i := 3) (oi := { dst := some 149, op := _, type := _, pos := _, after := _, guard := _ }) (v := .int .i64 z) rfl (by kernel_rfl) (by kernel_rfl) (by kernel_rfl) (fun _ _ _ h => h) (Or.inl ⟨by rfl, ?_⟩) (by assumption) ?_
            · (intro w' hSw; (try dsimp only at hSw); obtain ⟨hS0, hS1, hS2⟩ := hSw; go_simp)
            (try simp only [Act.put, List.setIfInBounds_toArray, List.set_cons_zero, List.set_cons_succ])
            refine wpAnyH_take (i := 4) (oi := { dst := some 150, op := _, type := _, pos := _, after := _, guard := _ }) (v := .int .i64 (Int.tmod z 2)) rfl (by kernel_rfl) (by kernel_rfl) (by kernel_rfl) (fun _ _ _ h => h) (Or.inl ⟨by rfl, ?_⟩) (by assumption) ?_
            · (intro w' hSw; (try dsimp only at hSw); obtain ⟨hS0, hS1, hS2⟩ := hSw; go_simp)
            (try simp only [Act.put, List.setIfInBounds_toArray, List.set_cons_zero, List.set_cons_succ])
            refine wpAnyH_take (i := 5) (oi := { dst := some 151, op := _, type := _, pos := _, after := _, guard := _ }) (v := .bool (Int.tmod z 2 != 0)) rfl (by kernel_rfl) (by kernel_rfl) (by kernel_rfl) (fun _ _ _ h => h) (Or.inl ⟨by rfl, ?_⟩) (by assumption) ?_
            · (intro w' hSw; (try dsimp only at hSw); obtain ⟨hS0, hS1, hS2⟩ := hSw; go_simp)
            (try simp only [Act.put, List.setIfInBounds_toArray, List.set_cons_zero, List.set_cons_succ])
            refine wpAnyH_take (i := 6) (oi := { dst := some 152, op := _, type := _, pos := _, after := _, guard := _ }) (v := .agg #[.int .i64 N, .int .i64 H]) rfl (by kernel_rfl) (by kernel_rfl) (by kernel_rfl) (fun _ _ _ h => h) (Or.inl ⟨by rfl, ?_⟩) (by assumption) ?_
            · (intro w' hSw; (try dsimp only at hSw); obtain ⟨hS0, hS1, hS2⟩ := hSw; go_simp)
            (try simp only [Act.put, List.setIfInBounds_toArray, List.set_cons_zero, List.set_cons_succ])
            refine wpAnyH_take (i := 7) (oi := { dst := some 153, op := _, type := _, pos := _, after := _, guard := _ }) (v := .int .i64 m) rfl (by kernel_rfl) (by kernel_rfl) (by kernel_rfl) (fun _ _ _ h => h) (Or.inl ⟨by rfl, ?_⟩) (by assumption) ?_
            · (intro w' hSw; (try dsimp only at hSw); obtain ⟨hS0, hS1, hS2⟩ := hSw; go_simp)
            (try simp only [Act.put, List.setIfInBounds_toArray, List.set_cons_zero, List.set_cons_succ])
            refine wpAnyH_ready (rs := [8]) (by kernel_rfl) (by simp) ?_
            refine AllReadyH.cons rfl (fun K hK => ?_) AllReadyH.nil
            go_simp
            refine (HV.out _).mono ?_
            rintro e u1 ⟨rfl, hx⟩
            go_simp
            refine hK.out _ _ (by obtain ⟨g0, g1, g2⟩ := hHeld; exact ⟨keepB hx g0, keepB hx g1, keepB hx g2⟩) (fun hHu1 => ?_)
            have Eu1 := Lib.hid (bB hx BEr.out.size BEr.out)
            clear hK K hHeld BEr hx
            (try simp only [Act.put, List.setIfInBounds_toArray, List.set_cons_zero, List.set_cons_succ])
            as_aux_lemma =>
            refine wpAnyH_take (i := 9) (oi := { dst := some 155, op := _, type := _, pos := _, after := _, guard := _ }) (v := .bool (y == 1)) rfl (by kernel_rfl) (by kernel_rfl) (by kernel_rfl) (fun _ _ _ h => h) (Or.inl ⟨by rfl, ?_⟩) (by assumption) ?_
            · (intro w' hSw; (try dsimp only at hSw); obtain ⟨hS0, hS1, hS2⟩ := hSw; go_simp)
            (try simp only [Act.put, List.setIfInBounds_toArray, List.set_cons_zero, List.set_cons_succ])
            refine wpAnyH_take (i := 10) (oi := { dst := some 156, op := _, type := _, pos := _, after := _, guard := _ }) (v := .bool false) rfl (by kernel_rfl) (by kernel_rfl) (by kernel_rfl) (fun _ _ _ h => h) (Or.inl ⟨by rfl, ?_⟩) (by assumption) ?_
            · (intro w' hSw; (try dsimp only at hSw); obtain ⟨hS0, hS1, hS2⟩ := hSw; go_simp; exact HOD.out)
            (try simp only [Act.put, List.setIfInBounds_toArray, List.set_cons_zero, List.set_cons_succ])
            obtain ⟨p0, p1, ck⟩ := hHu1
            refine wpAnyH_done (by kernel_rfl) ?_ _
            clear p0 p1 ck HOD
            go_wp2_with fail
            go_roundw
            case rel => exact ⟨m + 1, by go_num, by omega, Eu1.out⟩
            case measure => simp [intOf] <;> omega
          · go_wp2_with fail
            go_meet
            exact Ez5.out.trans (BE.out.mono Ez5.out.size)
    case rest =>
      as_aux_lemma =>
      have C0 := Lib.hid hcut
      clear hcut
      go_wp2_with fail
      refine (Draw.toc _ len0 _ (CODE.out.below C0.out)).mono ?_
      rintro e y1 ⟨v, l, rfl, hin, hll, hd⟩
      have C1 := Lib.hid (bB hd C0.out.size C0.out)
      have RR := Lib.hid hin
      obtain ⟨r, hTM, hTI, _⟩ := Toc.both l (by omega)
      have HTM := Lib.hid hTM
      have HTI := Lib.hid hTI
      obtain ⟨r1, r2, r3⟩ := r
      clear hin hd C0 hTM hTI
      go_wp2_with fail
      refine (HTI.out _ _ RR.out (TZ.out.stays C1.out (Nat.le_refl _))).mono ?_
      rintro e y2 ⟨rfl, hb⟩
      have Sy2 := Lib.hid (bB hb C1.out.size C1.out)
      replace RR := Lib.hid (RR.out.below hb)
      clear hb C1
      have Sy2a := Lib.hid (bA Sy2.out.size Sy2.out (o := .cells #[.int .i64 r1, .int .i64 r2] 25))
      replace RR := Lib.hid (RR.out.below (bA (Nat.le_refl _) (Below.refl _ _) (o := .cells #[.int .i64 r1, .int .i64 r2] 25)))
      have f0 : (y2.alloc (.cells #[.int .i64 r1, .int .i64 r2] 25)).cell? ⟨y2.heap.size, 0, none⟩ = some (.int .i64 r1) := keepN rfl rfl
      have f1 : (y2.alloc (.cells #[.int .i64 r1, .int .i64 r2] 25)).cell? ⟨y2.heap.size, 1, none⟩ = some (.int .i64 r2) := keepN rfl rfl
      clear Sy2
      go_wp2_with fail
      refine (HTM.out _ _ RR.out).mono ?_
      rintro e y3 ⟨rfl, hb⟩
      have Sy3 := Lib.hid (bB hb Sy2a.out.size Sy2a.out)
      replace f0 := keepB hb f0
      replace f1 := keepB hb f1
      replace RR := Lib.hid (RR.out.below hb)
      clear hb Sy2a
      have Sy3a := Lib.hid (bA Sy3.out.size Sy3.out (o := .cells #[.int .i64 r1, .int .i64 r2] 25))
      replace f0 := keepA (o := .cells #[.int .i64 r1, .int .i64 r2] 25) f0
      replace f1 := keepA (o := .cells #[.int .i64 r1, .int .i64 r2] 25) f1
      replace RR := Lib.hid (RR.out.below (bA (Nat.le_refl _) (Below.refl _ _) (o := .cells #[.int .i64 r1, .int .i64 r2] 25)))
      have g0 : (y3.alloc (.cells #[.int .i64 r1, .int .i64 r2] 25)).cell? ⟨y3.heap.size, 0, none⟩ = some (.int .i64 r1) := keepN rfl rfl
      have g1 : (y3.alloc (.cells #[.int .i64 r1, .int .i64 r2] 25)).cell? ⟨y3.heap.size, 1, none⟩ = some (.int .i64 r2) := keepN rfl rfl
      clear Sy3
      go_wp2_with fail
      refine (Draw.paf _ len0 _ (CODE.out.below Sy3a.out)).mono ?_
      rintro e y4 ⟨n2, t2, rfl, hb⟩
      have C4 := Lib.hid (bB hb Sy3a.out.size Sy3a.out)
      replace f0 := keepB hb f0
      replace f1 := keepB hb f1
      replace g0 := keepB hb g0
      replace g1 := keepB hb g1
      have HPI := Lib.hid (Paf.I n2 t2)
      have HPM := Lib.hid (Paf.M n2 t2)
      generalize pafT n2 t2.data.toList = p at *
      obtain ⟨p1, p2, p3⟩ := p
      clear hb Sy3a RR hll HTM HTI
      go_wp2_with fail
      refine (HPI.out _ (ML.out.below C4.out)).mono ?_
      rintro e y5 ⟨rfl, hb⟩
      have Sy5 := Lib.hid (bB hb C4.out.size C4.out)
      replace f0 := keepB hb f0
      replace f1 := keepB hb f1
      replace g0 := keepB hb g0
      replace g1 := keepB hb g1
      clear hb C4
      have Sy5a := Lib.hid (bA Sy5.out.size Sy5.out (o := .cells #[.int .i64 p1, .int .i64 p2] 25))
      replace f0 := keepA (o := .cells #[.int .i64 p1, .int .i64 p2] 25) f0
      replace f1 := keepA (o := .cells #[.int .i64 p1, .int .i64 p2] 25) f1
      replace g0 := keepA (o := .cells #[.int .i64 p1, .int .i64 p2] 25) g0
      replace g1 := keepA (o := .cells #[.int .i64 p1, .int .i64 p2] 25) g1
      have h0 : (y5.alloc (.cells #[.int .i64 p1, .int .i64 p2] 25)).cell? ⟨y5.heap.size, 0, none⟩ = some (.int .i64 p1) := keepN rfl rfl
      have h1 : (y5.alloc (.cells #[.int .i64 p1, .int .i64 p2] 25)).cell? ⟨y5.heap.size, 1, none⟩ = some (.int .i64 p2) := keepN rfl rfl
      clear Sy5
      go_wp2_with fail
      refine (HPM.out _).mono ?_
      rintro e y6 ⟨rfl, hb⟩
      have Sy6 := Lib.hid (bB hb Sy5a.out.size Sy5a.out)
      replace f0 := keepB hb f0
      replace f1 := keepB hb f1
      replace g0 := keepB hb g0
      replace g1 := keepB hb g1
      replace h0 := keepB hb h0
      replace h1 := keepB hb h1
      clear hb Sy5a
      have Sy6a := Lib.hid (bA Sy6.out.size Sy6.out (o := .cells #[.int .i64 p1, .int .i64 p2] 25))
      replace f0 := keepA (o := .cells #[.int .i64 p1, .int .i64 p2] 25) f0
      replace f1 := keepA (o := .cells #[.int .i64 p1, .int .i64 p2] 25) f1
      replace g0 := keepA (o := .cells #[.int .i64 p1, .int .i64 p2] 25) g0
      replace g1 := keepA (o := .cells #[.int .i64 p1, .int .i64 p2] 25) g1
      replace h0 := keepA (o := .cells #[.int .i64 p1, .int .i64 p2] 25) h0
      replace h1 := keepA (o := .cells #[.int .i64 p1, .int .i64 p2] 25) h1
      have k0 : (y6.alloc (.cells #[.int .i64 p1, .int .i64 p2] 25)).cell? ⟨y6.heap.size, 0, none⟩ = some (.int .i64 p1) := keepN rfl rfl
      have k1 : (y6.alloc (.cells #[.int .i64 p1, .int .i64 p2] 25)).cell? ⟨y6.heap.size, 1, none⟩ = some (.int .i64 p2) := keepN rfl rfl
      clear Sy6
      go_wp2_with fail
      refine (Draw.fa _ len0 _ (CODE.out.below Sy6a.out)).mono ?_
      rintro e y7 ⟨n3, a3, rfl, hn3, ha3, hb⟩
      have HFI := Lib.hid (Fm.impl n3 a3 ha3)
      have HFM := Lib.hid (Fm.model n3 a3)
      obtain ⟨t, ht⟩ : ∃ t : ByteArray, (⟨(fmT n3 a3).toArray⟩ : ByteArray) = t := ⟨_, rfl⟩
      rw [ht] at HFI HFM
      have C7 := Lib.hid (bB hb Sy6a.out.size Sy6a.out)
      replace f0 := keepB hb f0
      replace f1 := keepB hb f1
      replace g0 := keepB hb g0
      replace g1 := keepB hb g1
      replace h0 := keepB hb h0
      replace h1 := keepB hb h1
      replace k0 := keepB hb k0
      replace k1 := keepB hb k1
      have C7a := Lib.hid (bA C7.out.size C7.out (o := .cells #[.int .i64 n3, .int .i64 a3] 25))
      replace f0 := keepA (o := .cells #[.int .i64 n3, .int .i64 a3] 25) f0
      replace f1 := keepA (o := .cells #[.int .i64 n3, .int .i64 a3] 25) f1
      replace g0 := keepA (o := .cells #[.int .i64 n3, .int .i64 a3] 25) g0
      replace g1 := keepA (o := .cells #[.int .i64 n3, .int .i64 a3] 25) g1
      replace h0 := keepA (o := .cells #[.int .i64 n3, .int .i64 a3] 25) h0
      replace h1 := keepA (o := .cells #[.int .i64 n3, .int .i64 a3] 25) h1
      replace k0 := keepA (o := .cells #[.int .i64 n3, .int .i64 a3] 25) k0
      replace k1 := keepA (o := .cells #[.int .i64 n3, .int .i64 a3] 25) k1
      have m0 : (y7.alloc (.cells #[.int .i64 n3, .int .i64 a3] 25)).cell? ⟨y7.heap.size, 0, none⟩ = some (.int .i64 n3) := keepN rfl rfl
      have m1 : (y7.alloc (.cells #[.int .i64 n3, .int .i64 a3] 25)).cell? ⟨y7.heap.size, 1, none⟩ = some (.int .i64 a3) := keepN rfl rfl
      clear ht hn3 ha3 hb Sy6a HPI HPM C7
      have hzc0 : y2.heap.size < (y7.alloc (.cells #[.int .i64 n3, .int .i64 a3] 25)).heap.size := World.block_lt_of_cell? _ ⟨y2.heap.size, 0, none⟩ f0
      have hzc1 : y3.heap.size < (y7.alloc (.cells #[.int .i64 n3, .int .i64 a3] 25)).heap.size := World.block_lt_of_cell? _ ⟨y3.heap.size, 0, none⟩ g0
      have hzc2 : y5.heap.size < (y7.alloc (.cells #[.int .i64 n3, .int .i64 a3] 25)).heap.size := World.block_lt_of_cell? _ ⟨y5.heap.size, 0, none⟩ h0
      have hzc3 : y6.heap.size < (y7.alloc (.cells #[.int .i64 n3, .int .i64 a3] 25)).heap.size := World.block_lt_of_cell? _ ⟨y6.heap.size, 0, none⟩ k0
      have hzc4 : y7.heap.size < (y7.alloc (.cells #[.int .i64 n3, .int .i64 a3] 25)).heap.size := World.block_lt_of_cell? _ ⟨y7.heap.size, 0, none⟩ m0
      obtain ⟨s1, s2⟩ := same_str t
      obtain ⟨v1, v2⟩ := same_bool r3
      obtain ⟨v3, v4⟩ := same_bool p3
      go_wp2_with fail
      refine wp_region_held_drew (S := fun w' => w'.cell? ⟨y2.heap.size, 0, none⟩ = some (.int .i64 r1) ∧ w'.cell? ⟨y2.heap.size, 1, none⟩ = some (.int .i64 r2) ∧ w'.cell? ⟨y3.heap.size, 0, none⟩ = some (.int .i64 r1) ∧ w'.cell? ⟨y3.heap.size, 1, none⟩ = some (.int .i64 r2) ∧ w'.cell? ⟨y5.heap.size, 0, none⟩ = some (.int .i64 p1) ∧ w'.cell? ⟨y5.heap.size, 1, none⟩ = some (.int .i64 p2) ∧ w'.cell? ⟨y6.heap.size, 0, none⟩ = some (.int .i64 p1) ∧ w'.cell? ⟨y6.heap.size, 1, none⟩ = some (.int .i64 p2) ∧ w'.cell? ⟨y7.heap.size, 0, none⟩ = some (.int .i64 n3) ∧ w'.cell? ⟨y7.heap.size, 1, none⟩ = some (.int .i64 a3)) (by kernel_rfl) ⟨keepD f0, keepD f1, keepD g0, keepD g1, keepD h0, keepD h1, keepD k0, keepD k1, keepD m0, keepD m1⟩ (fun hHeld => ?_)
      have C7ar := Lib.hid (bD C7a.out)
      refine wpAnyH_take (i := 0) (oi := { dst := some 188, op := _, type := _, pos := _, after := _, guard := _ }) (v := .agg #[.int .i64 r1, .int .i64 r2]) rfl (by kernel_rfl) (by kernel_rfl) (by kernel_rfl) (fun _ _ _ h => h) (Or.inl ⟨by rfl, ?_⟩) (by assumption) ?_
      · (intro w' hSw; (try dsimp only at hSw); obtain ⟨hS0, hS1, hS2, hS3, hS4, hS5, hS6, hS7, hS8, hS9⟩ := hSw; go_simp)
      (try simp only [Act.put, List.setIfInBounds_toArray, List.set_cons_zero, List.set_cons_succ])
      refine wpAnyH_take (i := 1) (oi := { dst := some 189, op := _, type := _, pos := _, after := _, guard := _ }) (v := .agg #[.int .i64 r1, .int .i64 r2]) rfl (by kernel_rfl) (by kernel_rfl) (by kernel_rfl) (fun _ _ _ h => h) (Or.inl ⟨by rfl, ?_⟩) (by assumption) ?_
      · (intro w' hSw; (try dsimp only at hSw); obtain ⟨hS0, hS1, hS2, hS3, hS4, hS5, hS6, hS7, hS8, hS9⟩ := hSw; go_simp)
      (try simp only [Act.put, List.setIfInBounds_toArray, List.set_cons_zero, List.set_cons_succ])
      refine wpAnyH_take (i := 2) (oi := { dst := some 190, op := _, type := _, pos := _, after := _, guard := _ }) (v := .bool true) rfl (by kernel_rfl) (by kernel_rfl) (by kernel_rfl) (fun _ _ _ h => h) (Or.inl ⟨by rfl, ?_⟩) (by assumption) ?_
      · (intro w' hSw; (try dsimp only at hSw); obtain ⟨hS0, hS1, hS2, hS3, hS4, hS5, hS6, hS7, hS8, hS9⟩ := hSw; go_simp)
      (try simp only [Act.put, List.setIfInBounds_toArray, List.set_cons_zero, List.set_cons_succ])
      refine wpAnyH_take (i := 3) (oi := { dst := some 191, op := _, type := _, pos := _, after := _, guard := _ }) (v := .bool true) rfl (by kernel_rfl) (by kernel_rfl) (by kernel_rfl) (fun _ _ _ h => h) (Or.inl ⟨by rfl, ?_⟩) (by assumption) ?_
      · (intro w' hSw; (try dsimp only at hSw); obtain ⟨hS0, hS1, hS2, hS3, hS4, hS5, hS6, hS7, hS8, hS9⟩ := hSw; go_simp)
      (try simp only [Act.put, List.setIfInBounds_toArray, List.set_cons_zero, List.set_cons_succ])
      refine wpAnyH_take (i := 4) (oi := { dst := some 192, op := _, type := _, pos := _, after := _, guard := _ }) (v := .bool r3) rfl (by kernel_rfl) (by kernel_rfl) (by kernel_rfl) (fun _ _ _ h => h) (Or.inl ⟨by rfl, ?_⟩) (by assumption) ?_
      · (intro w' hSw; (try dsimp only at hSw); obtain ⟨hS0, hS1, hS2, hS3, hS4, hS5, hS6, hS7, hS8, hS9⟩ := hSw; go_simp)
      (try simp only [Act.put, List.setIfInBounds_toArray, List.set_cons_zero, List.set_cons_succ])
      refine wpAnyH_take (i := 5) (oi := { dst := some 193, op := _, type := _, pos := _, after := _, guard := _ }) (v := .bool r3) rfl (by kernel_rfl) (by kernel_rfl) (by kernel_rfl) (fun _ _ _ h => h) (Or.inl ⟨by rfl, ?_⟩) (by assumption) ?_
      · (intro w' hSw; (try dsimp only at hSw); obtain ⟨hS0, hS1, hS2, hS3, hS4, hS5, hS6, hS7, hS8, hS9⟩ := hSw; go_simp)
      (try simp only [Act.put, List.setIfInBounds_toArray, List.set_cons_zero, List.set_cons_succ])
      refine wpAnyH_take (i := 6) (oi := { dst := some 194, op := _, type := _, pos := _, after := _, guard := _ }) (v := .bool true) rfl (by kernel_rfl) (by kernel_rfl) (by kernel_rfl) (fun _ _ _ h => h) (Or.inl ⟨by rfl, ?_⟩) (by assumption) ?_
      · (intro w' hSw; (try dsimp only at hSw); obtain ⟨hS0, hS1, hS2, hS3, hS4, hS5, hS6, hS7, hS8, hS9⟩ := hSw; go_simp)
      (try simp only [Act.put, List.setIfInBounds_toArray, List.set_cons_zero, List.set_cons_succ])
      refine wpAnyH_take (i := 7) (oi := { dst := some 195, op := _, type := _, pos := _, after := _, guard := _ }) (v := .bool true) rfl (by kernel_rfl) (by kernel_rfl) (by kernel_rfl) (fun _ _ _ h => h) (Or.inl ⟨by rfl, ?_⟩) (by assumption) ?_
      · (intro w' hSw; (try dsimp only at hSw); obtain ⟨hS0, hS1, hS2, hS3, hS4, hS5, hS6, hS7, hS8, hS9⟩ := hSw; go_simp)
      (try simp only [Act.put, List.setIfInBounds_toArray, List.set_cons_zero, List.set_cons_succ])
      refine wpAnyH_take (i := 8) (oi := { dst := some 196, op := _, type := _, pos := _, after := _, guard := _ }) (v := .bool true) rfl (by kernel_rfl) (by kernel_rfl) (by kernel_rfl) (fun _ _ _ h => h) (Or.inl ⟨by rfl, ?_⟩) (by assumption) ?_
      · (intro w' hSw; (try dsimp only at hSw); obtain ⟨hS0, hS1, hS2, hS3, hS4, hS5, hS6, hS7, hS8, hS9⟩ := hSw; go_simp)
      (try simp only [Act.put, List.setIfInBounds_toArray, List.set_cons_zero, List.set_cons_succ])
      refine wpAnyH_take (i := 9) (oi := { dst := some 197, op := _, type := _, pos := _, after := _, guard := _ }) (v := .agg #[.int .i64 p1, .int .i64 p2]) rfl (by kernel_rfl) (by kernel_rfl) (by kernel_rfl) (fun _ _ _ h => h) (Or.inl ⟨by rfl, ?_⟩) (by assumption) ?_
      · (intro w' hSw; (try dsimp only at hSw); obtain ⟨hS0, hS1, hS2, hS3, hS4, hS5, hS6, hS7, hS8, hS9⟩ := hSw; go_simp)
      (try simp only [Act.put, List.setIfInBounds_toArray, List.set_cons_zero, List.set_cons_succ])
      refine wpAnyH_take (i := 10) (oi := { dst := some 198, op := _, type := _, pos := _, after := _, guard := _ }) (v := .agg #[.int .i64 p1, .int .i64 p2]) rfl (by kernel_rfl) (by kernel_rfl) (by kernel_rfl) (fun _ _ _ h => h) (Or.inl ⟨by rfl, ?_⟩) (by assumption) ?_
      · (intro w' hSw; (try dsimp only at hSw); obtain ⟨hS0, hS1, hS2, hS3, hS4, hS5, hS6, hS7, hS8, hS9⟩ := hSw; go_simp)
      (try simp only [Act.put, List.setIfInBounds_toArray, List.set_cons_zero, List.set_cons_succ])
      refine wpAnyH_take (i := 11) (oi := { dst := some 199, op := _, type := _, pos := _, after := _, guard := _ }) (v := .bool true) rfl (by kernel_rfl) (by kernel_rfl) (by kernel_rfl) (fun _ _ _ h => h) (Or.inl ⟨by rfl, ?_⟩) (by assumption) ?_
      · (intro w' hSw; (try dsimp only at hSw); obtain ⟨hS0, hS1, hS2, hS3, hS4, hS5, hS6, hS7, hS8, hS9⟩ := hSw; go_simp)
      (try simp only [Act.put, List.setIfInBounds_toArray, List.set_cons_zero, List.set_cons_succ])
      refine wpAnyH_take (i := 12) (oi := { dst := some 200, op := _, type := _, pos := _, after := _, guard := _ }) (v := .bool true) rfl (by kernel_rfl) (by kernel_rfl) (by kernel_rfl) (fun _ _ _ h => h) (Or.inl ⟨by rfl, ?_⟩) (by assumption) ?_
      · (intro w' hSw; (try dsimp only at hSw); obtain ⟨hS0, hS1, hS2, hS3, hS4, hS5, hS6, hS7, hS8, hS9⟩ := hSw; go_simp)
      (try simp only [Act.put, List.setIfInBounds_toArray, List.set_cons_zero, List.set_cons_succ])
      refine wpAnyH_take (i := 13) (oi := { dst := some 201, op := _, type := _, pos := _, after := _, guard := _ }) (v := .bool true) rfl (by kernel_rfl) (by kernel_rfl) (by kernel_rfl) (fun _ _ _ h => h) (Or.inl ⟨by rfl, ?_⟩) (by assumption) ?_
      · (intro w' hSw; (try dsimp only at hSw); obtain ⟨hS0, hS1, hS2, hS3, hS4, hS5, hS6, hS7, hS8, hS9⟩ := hSw; go_simp)
      (try simp only [Act.put, List.setIfInBounds_toArray, List.set_cons_zero, List.set_cons_succ])
      refine wpAnyH_take (i := 14) (oi := { dst := some 202, op := _, type := _, pos := _, after := _, guard := _ }) (v := .bool p3) rfl (by kernel_rfl) (by kernel_rfl) (by kernel_rfl) (fun _ _ _ h => h) (Or.inl ⟨by rfl, ?_⟩) (by assumption) ?_
      · (intro w' hSw; (try dsimp only at hSw); obtain ⟨hS0, hS1, hS2, hS3, hS4, hS5, hS6, hS7, hS8, hS9⟩ := hSw; go_simp)
      (try simp only [Act.put, List.setIfInBounds_toArray, List.set_cons_zero, List.set_cons_succ])
      refine wpAnyH_take (i := 15) (oi := { dst := some 203, op := _, type := _, pos := _, after := _, guard := _ }) (v := .bool p3) rfl (by kernel_rfl) (by kernel_rfl) (by kernel_rfl) (fun _ _ _ h => h) (Or.inl ⟨by rfl, ?_⟩) (by assumption) ?_
      · (intro w' hSw; (try dsimp only at hSw); obtain ⟨hS0, hS1, hS2, hS3, hS4, hS5, hS6, hS7, hS8, hS9⟩ := hSw; go_simp)
      (try simp only [Act.put, List.setIfInBounds_toArray, List.set_cons_zero, List.set_cons_succ])
      refine wpAnyH_take (i := 16) (oi := { dst := some 204, op := _, type := _, pos := _, after := _, guard := _ }) (v := .bool true) rfl (by kernel_rfl) (by kernel_rfl) (by kernel_rfl) (fun _ _ _ h => h) (Or.inl ⟨by rfl, ?_⟩) (by assumption) ?_
      · (intro w' hSw; (try dsimp only at hSw); obtain ⟨hS0, hS1, hS2, hS3, hS4, hS5, hS6, hS7, hS8, hS9⟩ := hSw; go_simp)
      (try simp only [Act.put, List.setIfInBounds_toArray, List.set_cons_zero, List.set_cons_succ])
      refine wpAnyH_take (i := 17) (oi := { dst := some 205, op := _, type := _, pos := _, after := _, guard := _ }) (v := .bool true) rfl (by kernel_rfl) (by kernel_rfl) (by kernel_rfl) (fun _ _ _ h => h) (Or.inl ⟨by rfl, ?_⟩) (by assumption) ?_
      · (intro w' hSw; (try dsimp only at hSw); obtain ⟨hS0, hS1, hS2, hS3, hS4, hS5, hS6, hS7, hS8, hS9⟩ := hSw; go_simp)
      (try simp only [Act.put, List.setIfInBounds_toArray, List.set_cons_zero, List.set_cons_succ])
      refine wpAnyH_take (i := 18) (oi := { dst := some 206, op := _, type := _, pos := _, after := _, guard := _ }) (v := .bool true) rfl (by kernel_rfl) (by kernel_rfl) (by kernel_rfl) (fun _ _ _ h => h) (Or.inl ⟨by rfl, ?_⟩) (by assumption) ?_
      · (intro w' hSw; (try dsimp only at hSw); obtain ⟨hS0, hS1, hS2, hS3, hS4, hS5, hS6, hS7, hS8, hS9⟩ := hSw; go_simp)
      (try simp only [Act.put, List.setIfInBounds_toArray, List.set_cons_zero, List.set_cons_succ])
      refine wpAnyH_take (i := 19) (oi := { dst := some 207, op := _, type := _, pos := _, after := _, guard := _ }) (v := .agg #[.int .i64 n3, .int .i64 a3]) rfl (by kernel_rfl) (by kernel_rfl) (by kernel_rfl) (fun _ _ _ h => h) (Or.inl ⟨by rfl, ?_⟩) (by assumption) ?_
      · (intro w' hSw; (try dsimp only at hSw); obtain ⟨hS0, hS1, hS2, hS3, hS4, hS5, hS6, hS7, hS8, hS9⟩ := hSw; go_simp)
      (try simp only [Act.put, List.setIfInBounds_toArray, List.set_cons_zero, List.set_cons_succ])
      refine wpAnyH_take (i := 21) (oi := { dst := some 209, op := _, type := _, pos := _, after := _, guard := _ }) (v := .agg #[.int .i64 n3, .int .i64 a3]) rfl (by kernel_rfl) (by kernel_rfl) (by kernel_rfl) (fun _ _ _ h => h) (Or.inl ⟨by rfl, ?_⟩) (by assumption) ?_
      · (intro w' hSw; (try dsimp only at hSw); obtain ⟨hS0, hS1, hS2, hS3, hS4, hS5, hS6, hS7, hS8, hS9⟩ := hSw; go_simp)
      (try simp only [Act.put, List.setIfInBounds_toArray, List.set_cons_zero, List.set_cons_succ])
      refine wpAnyH_ready (rs := [20]) (by kernel_rfl) (by simp) ?_
      refine AllReadyH.cons rfl (fun K hK => ?_) AllReadyH.nil
      go_simp
      refine (HFI.out _).mono ?_
      rintro e x1 ⟨rfl, hx⟩
      go_simp
      refine hK.out _ _ (by obtain ⟨g0, g1, g2, g3, g4, g5, g6, g7, g8, g9⟩ := hHeld; exact ⟨keepB hx g0, keepB hx g1, keepB hx g2, keepB hx g3, keepB hx g4, keepB hx g5, keepB hx g6, keepB hx g7, keepB hx g8, keepB hx g9⟩) (fun hHx1 => ?_)
      have Ex1 := Lib.hid (bB hx C7ar.out.size C7ar.out)
      clear hK K hHeld C7ar hx
      (try simp only [Act.put, List.setIfInBounds_toArray, List.set_cons_zero, List.set_cons_succ])
      as_aux_lemma =>
      refine wpAnyH_ready (rs := [22]) (by kernel_rfl) (by simp) ?_
      refine AllReadyH.cons rfl (fun K hK => ?_) AllReadyH.nil
      go_simp
      refine (HFM.out _).mono ?_
      rintro e x2 ⟨rfl, hx⟩
      go_simp
      refine hK.out _ _ (by obtain ⟨g0, g1, g2, g3, g4, g5, g6, g7, g8, g9⟩ := hHx1; exact ⟨keepB hx g0, keepB hx g1, keepB hx g2, keepB hx g3, keepB hx g4, keepB hx g5, keepB hx g6, keepB hx g7, keepB hx g8, keepB hx g9⟩) (fun hHx2 => ?_)
      have Ex2 := Lib.hid (bB hx Ex1.out.size Ex1.out)
      clear hK K hHx1 Ex1 hx
      (try simp only [Act.put, List.setIfInBounds_toArray, List.set_cons_zero, List.set_cons_succ])
      as_aux_lemma =>
      refine wpAnyH_take (i := 23) (oi := { dst := some 211, op := _, type := _, pos := _, after := _, guard := _ }) (v := .bool true) rfl (by kernel_rfl) (by kernel_rfl) (by kernel_rfl) (fun _ _ _ h => h) (Or.inl ⟨by rfl, ?_⟩) (by assumption) ?_
      · (intro w' hSw; (try dsimp only at hSw); obtain ⟨hS0, hS1, hS2, hS3, hS4, hS5, hS6, hS7, hS8, hS9⟩ := hSw; go_simp)
      (try simp only [Act.put, List.setIfInBounds_toArray, List.set_cons_zero, List.set_cons_succ])
      refine wpAnyH_take (i := 24) (oi := { dst := some 212, op := _, type := _, pos := _, after := _, guard := _ }) (v := .bool true) rfl (by kernel_rfl) (by kernel_rfl) (by kernel_rfl) (fun _ _ _ h => h) (Or.inl ⟨by rfl, ?_⟩) (by assumption) ?_
      · (intro w' hSw; (try dsimp only at hSw); obtain ⟨hS0, hS1, hS2, hS3, hS4, hS5, hS6, hS7, hS8, hS9⟩ := hSw; go_simp)
      (try simp only [Act.put, List.setIfInBounds_toArray, List.set_cons_zero, List.set_cons_succ])
      refine wpAnyH_take (i := 25) (oi := { dst := some 2, op := _, type := _, pos := _, after := _, guard := _ }) (v := .bool true) rfl (by kernel_rfl) (by kernel_rfl) (by kernel_rfl) (fun _ _ _ h => h) (Or.inl ⟨by rfl, ?_⟩) (by assumption) ?_
      · (intro w' hSw; (try dsimp only at hSw); obtain ⟨hS0, hS1, hS2, hS3, hS4, hS5, hS6, hS7, hS8, hS9⟩ := hSw; go_simp)
      (try simp only [Act.put, List.setIfInBounds_toArray, List.set_cons_zero, List.set_cons_succ])
      refine wpAnyH_done (by kernel_rfl) ?_ _
      go_wp2
      go_ret
      exact ⟨rfl, Ex2.out⟩
  · have hgt : ¬ (len0 : Int) ≤ 1048576 := hlen
    have hl : (len0 : Int) ≤ 9223372036854775807 := by
      rcases w0 with ⟨_, rfl, _⟩ | ⟨x, rfl, hlc, hm, _⟩
      · omega
      · unfold maxLen at hm; omega
    have HB := Lib.hid (Draw.big a0 len0 cap0 hl)
    rw [show decide (1048576 < (len0 : Int)) = true from decide_eq_true (by omega)] at HB
    clear w0 hlen hgt hl
    go_enter Tryz.func3, Tryz.ntmps3
    go_wp2_with fail
    refine (HB.out _).mono ?_
    rintro e w1 ⟨rfl, rfl⟩
    go_wp2
    go_ret
    exact ⟨rfl, Below.refl _ _⟩

set_option maxRecDepth 100000 in
theorem contract (H : Type) (enc : TypeId × Value → H) (W : World) (base : Nat) (args : Array Value) (ds gs : List (DataW H)) (before : List MemPlace)
    (hval : ∀ (j : Nat) t v, Tryz.f3.params[j]? = some t → args[j]? = some v → Value.okWide Tryz.prog W .any base t v)
    (hW : DataW.Whole enc Tryz.prog Tryz.f3.params.toList Rows.fnDegreesSpec.vars false W args.toList ds gs before) (hL : laidMetH Tryz.prog Rows.fnDegreesRow.laid W) (hS : W.ShapedOpen Tryz.prog) :
    Calls Tryz.prog 3 args W fun e W' => ∃ v, e = .returned v ∧ Rows.fnDegreesSpec.post enc Tryz.prog Tryz.f3 false true false false W args v W' := by
  have hW' := hW
  obtain ⟨p, q, hA0, hV, rfl, hfz, hnd⟩ := hW
  have hA : DataW.TrodAll enc Tryz.prog W 0 (fun _ => true) true Tryz.f3.params.toList args.toList ds p := hA0
  rw [Tryz.params3] at hA hval
  obtain ⟨v0, vs0, d0, ds0, p0, q0, hargs, rfl, rfl, h0, r0⟩ := trodAll_cons hA
  obtain ⟨rfl, rfl, rfl⟩ := trodAll_nil r0
  obtain rfl : args = #[v0] := by cases args; simp_all
  obtain ⟨rfl, rfl⟩ := trodVars_none hV
  obtain ⟨a0, len0, cap0, rfl⟩ := okWide_slice Tryz.underlying22 (hval 0 22 v0 rfl rfl)
  have k0 := h0
  have lt0 : ∀ x ∈ p0, x.block < W.heap.size := by obtain ⟨m, hm⟩ := k0; exact DataW.trod_lt m _ _ _ hm
  obtain ⟨z0, w0⟩ : ∃ zs, IsRow .u8 W a0 len0 cap0 zs := by
    obtain ⟨fuel, hf⟩ := h0
    rcases open_ints Tryz.underlying22 Tryz.underlying5 (by kernel_rfl) hf with ⟨hcs, _⟩ | ⟨x, l, c, zs, hcs, _, hl, hm, hz, _, hcell, hwz⟩
    · simp [Value.cells] at hcs
      obtain ⟨rfl, rfl, rfl⟩ := hcs
      exact ⟨[], .inl ⟨rfl, rfl, rfl, rfl⟩⟩
    · simp [Value.cells] at hcs
      obtain ⟨rfl, rfl, rfl⟩ := hcs
      exact ⟨zs, .inr ⟨_, rfl, hl, hm, by simpa using hz, hcell, hwz⟩⟩
  clear hA0
  refine (walk a0 len0 cap0 z0 W w0 hL hS).mono fun e W' ⟨he, bel⟩ => ?_
  subst he
  exact ⟨_, rfl, _, _, _, [], _, [], hW', trodAll_mk1 (shut_bool Tryz.underlying4 _), (trodAll_cons_mk (Below.trod laidOut (by kernel_rfl) (of_decide_eq_true (by kernel_rfl)) k0 bel lt0) trodAll_mk0), rfl, bel.frame _, fun h => by cases h⟩

theorem laid_met (os : Os) (args : Array Value) : laidMetH Tryz.prog Rows.fnDegreesRow.laid ((World.laidAll Tryz.prog os Rows.fnDegreesRow.laid).forCall (fun _ _ => 0) ⟨#[], args, []⟩).memory := by
  rw [MakeChecks.laidMetH_plain _ _ _ (by kernel_rfl)]
  exact laidMet_laidAll _ (by kernel_rfl) (by kernel_rfl)
theorem reads (os : Os) {H : Type} (enc : TypeId × Value → H) : ∃ places, DataW.whole enc Tryz.prog ((World.laidAll Tryz.prog os Rows.fnDegreesRow.laid).forCall (fun _ _ => 0) ⟨#[], #[.slice none 0 0], []⟩).memory Tryz.f3.params.toList Rows.fnDegreesSpec.vars false #[.slice none 0 0].toList 8 = some ([.nil], [], places) :=
  ⟨[], by kernel_rfl⟩

set_option maxRecDepth 100000 in
theorem lifted (os : Os) (started : os.Started) (H : Type) (enc : TypeId × Value → H) (F : Stop.Interp) :
    ReturnsInHanded {} Tryz.checked os 3 .any ((OpenSpec.ofChange Rows.fnDegreesSpec).preRow enc Tryz.prog Tryz.f3 Rows.fnDegreesRow.domain false Rows.fnDegreesRow.laid) (((OpenSpec.ofChange Rows.fnDegreesSpec).at F).post enc Tryz.prog Tryz.f3 false true false false) := by
  obtain ⟨places, hx⟩ := reads os enc
  refine returnsInHanded_of_row (C := Tryz.checked) (s := OpenSpec.ofChange Rows.fnDegreesSpec) own started (by kernel_rfl) Tryz.func3
    (witness_row_atRef (enc := enc) (C := Tryz.checked) false (World.laidAll Tryz.prog os Rows.fnDegreesRow.laid) #[.slice none 0 0] (World.laidAll_os _ _ _) (by kernel_rfl) (by kernel_rfl) (by kernel_rfl)
      (OpenSpec.preRow_of_cond 8 hx (by kernel_rfl) (fun k hk => by cases hk) (by kernel_rfl) (laid_met os _))) ?_
  intro W base args ds gs before hval hW _ _ _ hL hS _
  exact contract H enc W base args ds gs before hval hW hL hS

theorem said : Rows.FnDegreesSaid :=
  OpenClaim.holds_of_cond 3 Tryz.f3 rfl rfl rfl rfl rfl rfl rfl ⟨rfl, rfl, rfl, rfl, rfl⟩ rfl rfl rfl rfl rfl (by kernel_rfl) Tryz.func3 (by kernel_rfl)
    (of_decide_eq_true (by kernel_rfl)) (by unfold Func.isWrapper; first | (rw [if_pos (by decide +kernel)]; kernel_rfl) | (rw [if_neg (by decide +kernel)]; exact ⟨rfl, rfl⟩))
    (fun os started H enc _ F => by rw [OpenClaim.pre_eq_preRow]; exact lifted os started H enc F)

theorem plain (f : FuncId) (fn : Func) (hf : Tryz.pinned.checked.prog.funcNamed "loop.example/g03403/laws.FnDegrees" = some f) (hfn : Tryz.pinned.checked.prog.funcs[f]? = some fn) :
    false = Tryz.pinned.checked.prog.looks [] ∧ ∀ (j : Nat) t, fn.params[j]? = some t → Tryz.pinned.checked.prog.wantsStandIn t = false := by
  obtain rfl : f = 3 := Option.some.inj ((show Tryz.prog.funcNamed "loop.example/g03403/laws.FnDegrees" = some 3 by kernel_rfl).symm.trans hf) |>.symm
  obtain rfl : fn = Tryz.f3 := (Option.some.inj (Tryz.func3.symm.trans hfn)).symm
  refine ⟨by kernel_rfl, fun j t ht => ?_⟩
  rw [Tryz.params3] at ht
  have hm : t ∈ [22] := by simpa using Array.mem_of_getElem? ht
  have hall : ([22].all fun u => !Tryz.prog.wantsStandIn u) = true := by kernel_rfl
  exact (show Tryz.prog.wantsStandIn t = false by simpa using List.all_eq_true.1 hall t hm)

theorem proved : Rows.FnDegreesCardSaid :=
  Claim7.holds_tied_plain_at .later [] _ _ _ _ said (fun _ h => by cases h) (by kernel_rfl) (fun _ h => by cases h) fnDegrees_row_tie rfl ⟨rfl, rfl⟩ (by kernel_rfl) rfl plain (by kernel_rfl)
end Go.Proofs.YtphjaggiddjhgaaGreatDoor.fnDegrees
