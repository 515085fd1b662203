/-
  For every slice of ints, TableOfCoefficients of the program answers the same table and the same bool as the model's, and writes into nothing that was there, the slice included. No condition of its own: the law itself asks nothing of slices longer than 1048576.
  A TIED CARD: what its row lists of the library's variables is tied to the program's text by the given tie. It speaks of a pruned copy of the project (PRUNED.txt of its seat): code of other packages, commands or tests is not spoken of.
-/
import Derived.Test.YtphjaggiddjhgaaDoorCards
import Derived.Test.YtphjaggiddjhgaaDoorTie
import Derived.WalkKit
import Derived.ProofKit
import Derived.OpenShut
import Derived.ShutString
import Derived.ChangeOld
import Derived.Below
import Derived.Stop.LaidErr
import Derived.LaidMore
import Derived.MakeChecks
import Derived.Deep.DeepHandedRow
import Derived.Deep.DeepWitnessRowRef
import Derived.Lib.LaidTab
import Derived.Lib.SmallJoins
import Derived.Test.YtphjaggiddjhgaaDoorDegU
namespace Go.Proofs.YtphjaggiddjhgaaDoor.fnExactTableOfCoefficients
open Go.ChangeShapes Go.WideShapes Go.ChangeAt Go.RowKit
open Go.ChangeMaps (open_string shut_string)
open Go.Joins
set_option linter.unusedVariables false

theorem own : ownKnob Tryd.prog.godebug = none := by kernel_rfl
theorem laidOut : laidOutB Tryd.prog = true := by kernel_rfl

open Plain
/-- A slice of integers that came in: it is nil, or it leads to a row of 'cap' cells, the numbers 'zs', each fitting its kind. -/
def IsRow (k : IntKind) (w : World) (a : Option Addr) (len cap : Nat) (zs : List Int) : Prop :=
  (a = none ∧ len = 0 ∧ cap = 0 ∧ zs = []) ∨
  ∃ x, a = some x ∧ len ≤ cap ∧ cap ≤ maxLen ∧ zs.length = cap ∧ (∀ i, i < zs.length → w.cell? (x.add i) = some (.int k (zs.getD i 0))) ∧ ∀ n ∈ zs, (Lit.int k n).wf = true

theorem rowInts {w : World} {a : Option Addr} {len cap : Nat} {zs : List Int} (h : IsRow .i64 w a len cap zs) (hl : (len : Int) ≤ 1048576) :
    ∃ l : List Int, l.length = len ∧ IntsIn w (.slice a len cap) l := by
  rcases h with ⟨rfl, rfl, rfl, rfl⟩ | ⟨x, rfl, hlc, hm, hz, hcell, hwf⟩
  · exact ⟨[], rfl, none, 0, rfl, by decide, (fun x hx => absurd hx List.not_mem_nil), fun h => absurd h (Nat.lt_irrefl 0)⟩
  · have hlen : (zs.take len).length = len := by rw [List.length_take]; omega
    refine ⟨zs.take len, hlen, some x, cap, by rw [hlen], by omega, fun y hy => bounds64 (hwf y (List.mem_of_mem_take hy)), fun h0 => ?_⟩
    rw [hlen] at h0
    obtain ⟨ab, off, spot⟩ := x
    have hc := hcell 0 (by omega)
    have hspot : spot = none := by simpa [Addr.add] using World.cell?_spot hc
    subst hspot
    refine ⟨ab, off, rfl, World.block_lt_of_cell? w _ hc, fun j hj => ?_⟩
    rw [hlen] at hj
    have hcj := hcell j (by omega)
    rw [show (⟨ab, off, none⟩ : Addr).add j = ⟨ab, off + j, none⟩ by simp [Addr.add]] at hcj
    rw [hcj]
    congr 2
    simp [List.getD_eq_getElem?_getD, hj]

set_option maxRecDepth 100000 in
set_option maxHeartbeats 2000000 in
theorem walk (a0 : Option Addr) (len0 cap0 : Nat) (z0 : List Int) (W : World) (w0 : IsRow .i64 W a0 len0 cap0 z0) (hL : laidMetH Tryd.prog Rows.fnExactTableOfCoefficientsRow.laid W) :
    Calls Tryd.prog 4 #[.slice a0 len0 cap0] W fun e w' => e = .returned (.bool true) ∧ Below W.heap.size W w' := by
  rw [MakeChecks.laidMetH_plain _ _ _ (by kernel_rfl)] at hL
  by_cases hlt : (len0 : Int) ≤ 1048576
  · obtain ⟨l, hl, hin⟩ := rowInts w0 hlt
    have HT := Lib.hid (tzTab hL.tail)
    obtain ⟨r, hM, hI, _⟩ := Toc.both l (by omega)
    have HI := Lib.hid hI
    have HM := Lib.hid hM
    have HIN := Lib.hid hin
    have HL := Lib.hid hl
    clear w0 hin hl hM hI hL
    go_enter Tryd.func4, Tryd.ntmps4
    go_wp2_with fail
    refine (Ints.copy _ l _ HIN.out).mono ?_
    rintro e w2 ⟨g2, rfl, hr2, hb2⟩
    have hz2 := hb2.size
    have R2 := Lib.hid (hr2.ints (by have := HL.out; omega) (by obtain ⟨_, _, _, _, hbd, _⟩ := HIN.out; exact hbd))
    have B2 := Lib.hid hb2
    clear hb2 hr2
    go_wp2_with fail
    refine (HM.out _ _ R2.out).mono ?_
    rintro e w3 ⟨rfl, hb3⟩
    have hz3 := hb3.size
    have B3 := Lib.hid (B2.out.trans (hb3.mono (by omega)))
    clear hb3
    go_wp2_with fail
    refine (Ints.copy _ l _ (HIN.out.below (B3.out.alloc (by omega) _))).mono ?_
    rintro e w4 ⟨g4, rfl, hr4, hb4⟩
    have hz4 := hb4.size
    simp only [World.size_alloc] at hz4
    have r0 : w4.cell? ⟨w3.heap.size, 0, none⟩ = some (.int .i64 r.1) := keepB hb4 (keepN rfl rfl)
    have r1 : w4.cell? ⟨w3.heap.size, 1, none⟩ = some (.int .i64 r.2.1) := keepB hb4 (keepN rfl rfl)
    have R4 := Lib.hid (hr4.ints (by have := HL.out; omega) (by obtain ⟨_, _, _, _, hbd, _⟩ := HIN.out; exact hbd))
    have B4 := Lib.hid ((B3.out.alloc (by omega) _).trans (hb4.mono (by simp <;> omega)))
    have HT4 := Lib.hid (HT.out.stays B4.out (Nat.le_refl _))
    clear hb4 hr4
    go_wp2_with fail
    refine (HI.out _ _ R4.out HT4.out).mono ?_
    rintro e w6 ⟨rfl, hb6⟩
    have hz6 := hb6.size
    have t0 := keepB hb6 r0
    have t1 := keepB hb6 r1
    have R6 := Lib.hid (R4.out.below hb6)
    have B6 := Lib.hid (B4.out.trans (hb6.mono (by omega)))
    have hw36 : w3.heap.size < w6.heap.size := by omega
    clear hb6 r0 r1
    go_wp2_with fail
    refine (Tab.same _ _ _).mono ?_
    rintro e w7 ⟨rfl, hb7⟩
    have hz7 := hb7.size
    simp only [World.size_alloc] at hz7
    have R7 := Lib.hid ((R6.out.below ((Below.refl _ _).alloc (Nat.le_refl _) _)).below hb7)
    have B7 := Lib.hid ((B6.out.alloc (by omega) _).trans (hb7.mono (by simp <;> omega)))
    clear hb7
    go_wp2_with fail
    refine (Ints.copy _ l _ (HIN.out.below B7.out)).mono ?_
    rintro e w8 ⟨g8, rfl, hr8, hb8⟩
    have hz8 := hb8.size
    have R8 := Lib.hid (R7.out.below hb8)
    have G8 := Lib.hid (hr8.ints (by have := HL.out; omega) (by obtain ⟨_, _, _, _, hbd, _⟩ := HIN.out; exact hbd))
    have B8 := Lib.hid (B7.out.trans (hb8.mono (by omega)))
    clear hb8 hr8
    go_wp2_with fail
    refine (Ints.same _ _ l _ R8.out G8.out).mono ?_
    rintro e w9 ⟨rfl, q9, rfl⟩
    go_wp2
    go_ret
    exact ⟨rfl, below_drewN B8.out q9⟩
  · have hgt : 1048576 < (len0 : Int) := by omega
    go_enter Tryd.func4, Tryd.ntmps4
    go_wp2
    go_ret
    exact ⟨rfl, Below.refl _ _⟩

set_option maxRecDepth 100000 in
theorem contract (H : Type) (enc : TypeId × Value → H) (W : World) (base : Nat) (args : Array Value) (ds gs : List (DataW H)) (before : List MemPlace)
    (hval : ∀ (j : Nat) t v, Tryd.f4.params[j]? = some t → args[j]? = some v → Value.okWide Tryd.prog W .any base t v)
    (hW : DataW.Whole enc Tryd.prog Tryd.f4.params.toList Rows.fnExactTableOfCoefficientsSpec.vars false W args.toList ds gs before) (hL : laidMetH Tryd.prog Rows.fnExactTableOfCoefficientsRow.laid W) :
    Calls Tryd.prog 4 args W fun e W' => ∃ v, e = .returned v ∧ Rows.fnExactTableOfCoefficientsSpec.post enc Tryd.prog Tryd.f4 false true false false W args v W' := by
  have hW' := hW
  obtain ⟨p, q, hA0, hV, rfl, hfz, hnd⟩ := hW
  have hA : DataW.TrodAll enc Tryd.prog W 0 (fun _ => true) true Tryd.f4.params.toList args.toList ds p := hA0
  rw [Tryd.params4] at hA hval
  obtain ⟨v0, vs0, d0, ds0, p0, q0, hargs, rfl, rfl, h0, r0⟩ := trodAll_cons hA
  obtain ⟨rfl, rfl, rfl⟩ := trodAll_nil r0
  obtain rfl : args = #[v0] := by cases args; simp_all
  obtain ⟨rfl, rfl⟩ := trodVars_none hV
  obtain ⟨a0, len0, cap0, rfl⟩ := okWide_slice Tryd.underlying28 (hval 0 28 v0 rfl rfl)
  have k0 := h0
  have lt0 : ∀ x ∈ p0, x.block < W.heap.size := by obtain ⟨m, hm⟩ := k0; exact DataW.trod_lt m _ _ _ hm
  obtain ⟨z0, w0⟩ : ∃ zs, IsRow .i64 W a0 len0 cap0 zs := by
    obtain ⟨fuel, hf⟩ := h0
    rcases open_ints Tryd.underlying28 Tryd.underlying3 (by kernel_rfl) hf with ⟨hcs, _⟩ | ⟨x, l, c, zs, hcs, _, hl, hm, hz, _, hcell, hwz⟩
    · simp [Value.cells] at hcs
      obtain ⟨rfl, rfl, rfl⟩ := hcs
      exact ⟨[], .inl ⟨rfl, rfl, rfl, rfl⟩⟩
    · simp [Value.cells] at hcs
      obtain ⟨rfl, rfl, rfl⟩ := hcs
      exact ⟨zs, .inr ⟨_, rfl, hl, hm, by simpa using hz, hcell, hwz⟩⟩
  clear hA0
  refine (walk a0 len0 cap0 z0 W w0 hL).mono fun e W' ⟨he, bel⟩ => ?_
  subst he
  exact ⟨_, rfl, _, _, _, [], _, [], hW', trodAll_mk1 (shut_bool Tryd.underlying4 _), (trodAll_cons_mk (Below.trod laidOut (by kernel_rfl) (of_decide_eq_true (by kernel_rfl)) k0 bel lt0) trodAll_mk0), rfl, bel.frame _, fun h => by cases h⟩

theorem laid_met (os : Os) (args : Array Value) : laidMetH Tryd.prog Rows.fnExactTableOfCoefficientsRow.laid ((World.doorLaid Tryd.prog 2000 os).forCall (fun _ _ => 0) ⟨#[], args, []⟩).memory := by
  rw [MakeChecks.laidMetH_plain _ _ _ (by kernel_rfl)]
  exact laidMet_of_run' 8 (by kernel_rfl) (by kernel_rfl)
theorem reads (os : Os) {H : Type} (enc : TypeId × Value → H) : ∃ places, DataW.whole enc Tryd.prog ((World.doorLaid Tryd.prog 2000 os).forCall (fun _ _ => 0) ⟨#[], #[.slice none 0 0], []⟩).memory Tryd.f4.params.toList Rows.fnExactTableOfCoefficientsSpec.vars false #[.slice none 0 0].toList 8 = some ([.nil], [], places) :=
  ⟨[], by kernel_rfl⟩

set_option maxRecDepth 100000 in
theorem lifted (os : Os) (started : os.Started) (H : Type) (enc : TypeId × Value → H) (F : Stop.Interp) :
    ReturnsInHanded {} Tryd.checked os 4 .any ((OpenSpec.ofChange Rows.fnExactTableOfCoefficientsSpec).preRow enc Tryd.prog Tryd.f4 Rows.fnExactTableOfCoefficientsRow.domain false Rows.fnExactTableOfCoefficientsRow.laid) (((OpenSpec.ofChange Rows.fnExactTableOfCoefficientsSpec).at F).post enc Tryd.prog Tryd.f4 false true false false) := by
  obtain ⟨places, hx⟩ := reads os enc
  refine returnsInHanded_of_row (C := Tryd.checked) (s := OpenSpec.ofChange Rows.fnExactTableOfCoefficientsSpec) own started (by kernel_rfl) Tryd.func4
    (witness_row_atRef (enc := enc) (C := Tryd.checked) false (World.doorLaid Tryd.prog 2000 os) #[.slice none 0 0] rfl (by kernel_rfl) (by kernel_rfl) (by kernel_rfl)
      (OpenSpec.preRow_of_cond 8 hx (by kernel_rfl) (fun k hk => by cases hk) (by kernel_rfl) (laid_met os _))) ?_
  intro W base args ds gs before hval hW _ _ _ hL _ _
  exact contract H enc W base args ds gs before hval hW hL

theorem said : Rows.FnExactTableOfCoefficientsSaid :=
  OpenClaim.holds_of_cond 4 Tryd.f4 rfl rfl rfl rfl rfl rfl rfl ⟨rfl, rfl, rfl, rfl, rfl⟩ rfl rfl rfl rfl rfl (by kernel_rfl) Tryd.func4 (by kernel_rfl)
    (of_decide_eq_true (by kernel_rfl)) (by unfold Func.isWrapper; first | (rw [if_pos (by decide +kernel)]; kernel_rfl) | (rw [if_neg (by decide +kernel)]; exact ⟨rfl, rfl⟩))
    (fun os started H enc _ F => by rw [OpenClaim.pre_eq_preRow]; exact lifted os started H enc F)

theorem plain (f : FuncId) (fn : Func) (hf : Tryd.pinned.checked.prog.funcNamed "loop.example/g03403/laws.FnExactTableOfCoefficients" = some f) (hfn : Tryd.pinned.checked.prog.funcs[f]? = some fn) :
    false = Tryd.pinned.checked.prog.looks [] ∧ ∀ (j : Nat) t, fn.params[j]? = some t → Tryd.pinned.checked.prog.wantsStandIn t = false := by
  obtain rfl : f = 4 := Option.some.inj ((show Tryd.prog.funcNamed "loop.example/g03403/laws.FnExactTableOfCoefficients" = some 4 by kernel_rfl).symm.trans hf) |>.symm
  obtain rfl : fn = Tryd.f4 := (Option.some.inj (Tryd.func4.symm.trans hfn)).symm
  refine ⟨by kernel_rfl, fun j t ht => ?_⟩
  rw [Tryd.params4] at ht
  have hm : t ∈ [28] := by simpa using Array.mem_of_getElem? ht
  have hall : ([28].all fun u => !Tryd.prog.wantsStandIn u) = true := by kernel_rfl
  exact (show Tryd.prog.wantsStandIn t = false by simpa using List.all_eq_true.1 hall t hm)

theorem proved : Rows.FnExactTableOfCoefficientsCardSaid :=
  Claim7.holds_tied_plain_at .later [] _ _ _ _ said (fun _ h => by cases h) (by kernel_rfl) (fun _ h => by cases h) fnExactTableOfCoefficients_row_tie rfl ⟨rfl, rfl⟩ (by kernel_rfl) rfl plain (by kernel_rfl)
end Go.Proofs.YtphjaggiddjhgaaDoor.fnExactTableOfCoefficients
