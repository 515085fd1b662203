/-
  For every int and every list of terms of two ints, TableOfTerms of the program answers the same table and the same bool as the model's, leaves the list as it was, and writes into nothing that was there. No condition.
-/
import Derived.Test.YtkamopckpmiioaaRows
import Derived.WalkKit
import Derived.ProofKit
import Derived.OpenShut
import Derived.ShutString
import Derived.Carry
import Derived.Below
import Derived.Lib.SmallJoins
import Derived.Test.YtkamopckpmiioaaTrmT
import Derived.Deep.SlicePairs
namespace Go.Proofs.Ytkamopckpmiioaa.fnExactTableOfTerms
open Go.ChangeShapes Go.WideShapes Go.ChangeAt Go.RowKit
open Go.ChangeMaps (open_string shut_string)
open Go.Joins
set_option linter.unusedVariables false

theorem own : ownKnob Try.prog.godebug = none := by kernel_rfl
theorem laidOut : laidOutB Try.prog = true := by kernel_rfl

open Plain
/-- A slice of structs of two ints that came in: it is nil, or it leads to a row of 'len' pairs, the numbers 'zs', each fitting its kind. -/
def IsRow2 (w : World) (a : Option Addr) (len cap : Nat) (zs : List (Int × Int)) : Prop :=
  (a = none ∧ len = 0 ∧ cap = 0 ∧ zs = []) ∨
  ∃ x, a = some x ∧ len ≤ cap ∧ cap ≤ maxLen ∧ zs.length = len ∧ (∀ i, i < zs.length → w.cell? (x.add (i * 2)) = some (.int .i64 (zs.getD i (0, 0)).1) ∧ w.cell? (x.add (i * 2 + 1)) = some (.int .i64 (zs.getD i (0, 0)).2)) ∧ ∀ n ∈ zs, (Lit.int .i64 n.1).wf = true ∧ (Lit.int .i64 n.2).wf = true
theorem rowTerms {w : World} {a : Option Addr} {len cap : Nat} {zs : List (Int × Int)} (h : IsRow2 w a len cap zs) : len = zs.length ∧ ((len : Int) ≤ 1048576 → TmsIn w (.slice a len cap) zs) ∧ (len : Int) ≤ 9223372036854775807 := by
  rcases h with ⟨rfl, rfl, rfl, rfl⟩ | ⟨x, rfl, hlc, hcm, hlen, hcell, hwf⟩
  · exact ⟨rfl, fun _ => ⟨none, 0, rfl, by decide, by decide, by decide, fun t h => absurd h (by simp), fun h => absurd h (by decide)⟩, by decide⟩
  · refine ⟨hlen.symm, fun hl => ?_, by unfold maxLen at hcm; omega⟩
    obtain ⟨b, off, ext⟩ := x
    refine ⟨_, cap, by rw [hlen], by omega, by omega, by unfold maxLen at hcm; omega, fun t ht => ?_, fun h0 => ?_⟩
    · have h1 := bounds64 (hwf t ht).1
      have h2 := bounds64 (hwf t ht).2
      exact ⟨h1, h2⟩
    · have hx := (hcell 0 h0).1
      rw [Nat.zero_mul] at hx
      have hspot : ext = none := by simpa [Addr.add] using World.cell?_spot hx
      subst hspot
      refine ⟨b, off, rfl, World.block_lt_of_cell? w _ hx, fun j hj => ?_⟩
      have hj' := hcell j hj
      rw [show (⟨b, off, none⟩ : Addr).add (j * 2) = ⟨b, off + j * 2, none⟩ by simp [Addr.add], show (⟨b, off, none⟩ : Addr).add (j * 2 + 1) = ⟨b, off + j * 2 + 1, none⟩ by simp [Addr.add, Nat.add_assoc]] at hj'
      exact hj'
set_option maxRecDepth 100000 in
set_option maxHeartbeats 2000000 in
theorem walk (a0 : Int) (a1 : Option Addr) (len1 cap1 : Nat) (z1 : List (Int × Int)) (W : World) (w0 : (Lit.int .i64 a0).wf = true) (w1 : IsRow2 W a1 len1 cap1 z1) :
    Calls Try.prog 12 #[.int .i64 a0, .slice a1 len1 cap1] W fun e w' => e = .returned (.bool true) ∧ Below W.heap.size W w' := by
  obtain ⟨rfl, hin, h63⟩ := rowTerms w1
  have HSZ := Lib.hid (Trms.size (.slice a1 z1.length cap1) z1 W 1048576 (by decide) a1 cap1 rfl h63)
  clear w0 w1
  by_cases hlt : (1048576 : Int) < (z1.length : Int)
  · rw [if_pos hlt] at HSZ
    clear hlt hin
    go_enter Try.func12, Try.ntmps12
    go_wp2_with fail
    refine HSZ.out.mono ?_
    rintro e w1 ⟨rfl, rfl⟩
    go_wp2
    go_ret
    exact ⟨rfl, Below.refl _ _⟩
  · rw [if_neg hlt] at HSZ
    have hIN := hin (by omega)
    have HIN := Lib.hid hIN
    have HSM : Hid (Small2 z1) := Lib.hid (by obtain ⟨_, _, _, _, _, _, h, _⟩ := hIN; exact h)
    have HLN : Hid (z1.length ≤ 2000000) := Lib.hid (by omega)
    obtain ⟨q, hq⟩ : ∃ q : Int, (1048576 : Int) - z1.length = q := ⟨_, rfl⟩
    rw [hq] at HSZ
    have hq0 : 0 ≤ q := by omega
    clear hin hIN hlt hq h63
    have HM := Lib.hid (fun ad cap w h => Tot.M a0 z1 ad cap w h)
    have HI := Lib.hid (fun ad cap w h => Tot.I a0 z1 ad cap w h)
    generalize (totT a0 z1).1 = r1 at HM HI
    generalize (totT a0 z1).2.1 = r2 at HM HI
    generalize (totT a0 z1).2.2 = r3 at HM HI
    go_enter Try.func12, Try.ntmps12
    go_wp2_with fail
    refine HSZ.out.mono ?_
    rintro e w1 ⟨rfl, rfl⟩
    go_wp2_with fail
    refine (Trms.copy _ z1 _ HIN.out).mono ?_
    rintro e w1 ⟨g1, rfl, hr1, hb1⟩
    have HR1 := Lib.hid (hr1.terms HLN.out HSM.out)
    have HB1 := Lib.hid hb1
    clear hr1 hb1
    go_wp2_with fail
    refine (HM.out _ _ _ HR1.out).mono ?_
    rintro e w2 ⟨rfl, hb2⟩
    have HB2 := Lib.hid (bstep HB1.out hb2)
    clear hb2
    go_wp2_with fail
    have k0 : (w2.alloc (.cells #[.int .i64 r1, .int .i64 r2] 38)).cell? ⟨w2.heap.size, 0, none⟩ = some (.int .i64 r1) := keepN rfl rfl
    have k1 : (w2.alloc (.cells #[.int .i64 r1, .int .i64 r2] 38)).cell? ⟨w2.heap.size, 1, none⟩ = some (.int .i64 r2) := keepN rfl rfl
    have HB2' := Lib.hid (bA (o := .cells #[.int .i64 r1, .int .i64 r2] 38) HB2.out.size HB2.out)
    refine (Trms.copy _ z1 _ (HIN.out.below HB2'.out)).mono ?_
    rintro e w3 ⟨g3, rfl, hr3, hb3⟩
    have j0 := keepB hb3 k0
    have j1 := keepB hb3 k1
    have HR3 := Lib.hid (hr3.terms HLN.out HSM.out)
    have HB3 := Lib.hid (bstep HB2'.out hb3)
    have s3 : w2.heap.size < w3.heap.size := by have := hb3.size; simp at this; omega
    clear hr3 hb3 k0 k1
    go_wp2_with fail
    refine (HI.out _ _ _ HR3.out).mono ?_
    rintro e w4 ⟨rfl, hb4⟩
    have k0 := keepB hb4 j0
    have k1 := keepB hb4 j1
    have HR4 := Lib.hid (HR3.out.below hb4)
    have HB4 := Lib.hid (bstep HB3.out hb4)
    have s4 : w2.heap.size < w4.heap.size := by have := hb4.size; omega
    clear hb4 j0 j1
    go_wp2_with fail
    refine (Tab.same _ _ _).mono ?_
    rintro e w5 ⟨rfl, hb5⟩
    have HB4' := Lib.hid (bA (o := .cells #[.int .i64 r1, .int .i64 r2] 38) HB4.out.size HB4.out)
    have HR5 := Lib.hid ((HR4.out.below (bA (Nat.le_refl _) (Below.refl _ _))).below hb5)
    have HB5 := Lib.hid (bstep HB4'.out hb5)
    clear hb5
    go_wp2_with fail
    refine (Trms.copy _ z1 _ (HIN.out.below HB5.out)).mono ?_
    rintro e w6 ⟨g6, rfl, hr6, hb6⟩
    have HR6 := Lib.hid (hr6.terms HLN.out HSM.out)
    have HR7 := Lib.hid (HR5.out.below hb6)
    have HB6 := Lib.hid (bstep HB5.out hb6)
    clear hr6 hb6
    go_wp2_with fail
    refine (Trms.same _ _ z1 _ HR7.out HR6.out).mono ?_
    rintro e w7 ⟨rfl, hb7⟩
    have HB7 := Lib.hid (bstep HB6.out hb7)
    clear hb7
    go_wp2
    go_ret
    exact ⟨rfl, HB7.out⟩

set_option maxRecDepth 100000 in
theorem lifted (os : Os) (started : os.Started) (H : Type) (enc : TypeId × Value → H) :
    ReturnsInHanded {} Try.checked os 12 .any (Rows.fnExactTableOfTermsSpec.pre6 enc Try.prog Try.f12 Rows.fnExactTableOfTermsRow.domain false) (Rows.fnExactTableOfTermsSpec.post enc Try.prog Try.f12 false true false false) := by
  refine returnsInHanded_of_change (C := Try.checked) own started (by kernel_rfl) Try.func12
    (ChangeSpec.witness6 (enc := enc) (C := Try.checked) false ⟨#[], #[.int .i64 0, .slice none 0 0], []⟩ 8 (by kernel_rfl) (by kernel_rfl) (by kernel_rfl) (by kernel_rfl)) ?_
  intro W base args ds gs before hval0 hW hcnd _
  have hval : ∀ (j : Nat) t v, Try.f12.params[j]? = some t → args[j]? = some v → Value.okWide Try.prog W .any base t v := hval0
  have hW' := hW
  obtain ⟨p, q, hA0, hV, rfl, hfz, hnd⟩ := hW
  have hA : DataW.TrodAll enc Try.prog W 0 (fun _ => true) true Try.f12.params.toList args.toList ds p := hA0
  rw [Try.params12] at hA hval
  obtain ⟨v0, vs0, d0, ds0, p0, q0, hargs, rfl, rfl, h0, r0⟩ := trodAll_cons hA
  obtain ⟨v1, vs1, d1, ds1, p1, q1, rfl, rfl, rfl, h1, r1⟩ := trodAll_cons r0
  obtain ⟨rfl, rfl, rfl⟩ := trodAll_nil r1
  obtain rfl : args = #[v0, v1] := by cases args; simp_all
  obtain ⟨rfl, rfl⟩ := trodVars_none hV
  obtain ⟨a0, rfl, rfl, rfl, w0⟩ := open_int Try.underlying3 (hval 0 3 v0 rfl rfl) h0
  obtain ⟨a1, len1, cap1, rfl⟩ := okWide_slice Try.underlying47 (hval 1 47 v1 rfl rfl)
  have k1 := h1
  have lt1 : ∀ x ∈ p1, x.block < W.heap.size := by obtain ⟨m, hm⟩ := k1; exact DataW.trod_lt m _ _ _ hm
  obtain ⟨z1, w1⟩ : ∃ zs, IsRow2 W a1 len1 cap1 zs := by
    obtain ⟨fuel, hf⟩ := h1
    rcases Go.Deep.open_slice_pairs Try.underlying47 Try.underlying23 (by kernel_rfl) rfl rfl (by kernel_rfl) (by kernel_rfl) hf with ⟨hcs, _⟩ | ⟨x, l, c, m, n, V0, V1, D0, D1, P0, P1, hcs, _, hl, hm, hmm, _, hx⟩
    · simp [Value.cells] at hcs
      obtain ⟨rfl, rfl, rfl⟩ := hcs
      exact ⟨[], .inl ⟨rfl, rfl, rfl, rfl⟩⟩
    · simp [Value.cells] at hcs
      obtain ⟨rfl, rfl, rfl⟩ := hcs
      have hlm : len1 ≤ m := by rw [hmm]; split <;> omega
      obtain ⟨f, hf⟩ := Go.Deep.choose_lt (n := len1) (p := fun i (q : Int × Int) => W.cell? (x.add (i * 2)) = some (.int .i64 q.1) ∧ W.cell? (x.add (i * 2 + 1)) = some (.int .i64 q.2) ∧ (Lit.int .i64 q.1).wf = true ∧ (Lit.int .i64 q.2).wf = true) (fun i hi => by
        obtain ⟨g1, g2, g3, g4⟩ := hx i (by omega)
        obtain ⟨b0, e0, _, q0⟩ := DataW.trod_int Try.underlying3 g3
        obtain ⟨b1, e1, _, q1⟩ := DataW.trod_int Try.underlying3 g4
        simp at e0 e1
        exact ⟨(b0, b1), by rw [g1, e0], by rw [g2, e1], q0, q1⟩)
      refine ⟨(List.range len1).map f, .inr ⟨_, rfl, hl, hm, by simp, fun i hi => ?_, fun z hz => ?_⟩⟩
      · have hi' : i < len1 := by simpa using hi
        have e : ((List.range len1).map f).getD i (0, 0) = f i := by simp [List.getD_eq_getElem?_getD, hi']
        rw [e]; exact ⟨(hf i hi').1, (hf i hi').2.1⟩
      · obtain ⟨i, hi, rfl⟩ := List.mem_map.1 hz
        exact (hf i (List.mem_range.1 hi)).2.2
  clear hA0 hval0
  simp only [List.append_nil] at hW'
  refine (walk a0 a1 len1 cap1 z1 W w0 w1).mono fun e W' ⟨he, bel⟩ => ?_
  subst he
  exact ⟨_, rfl, _, _, _, [], _, [], hW', trodAll_mk1 (shut_bool Try.underlying4 _), (trodAll_cons_mk (shut_int Try.underlying3 w0) (trodAll_cons_mk (Below.trod laidOut (by kernel_rfl) (of_decide_eq_true (by kernel_rfl)) k1 bel lt1) trodAll_mk0)), rfl, bel.frame _, fun h => by cases h⟩

theorem proved : Rows.FnExactTableOfTermsSaid :=
  OpenClaim.holds_of_wide 12 Try.f12 rfl rfl rfl rfl rfl rfl rfl ⟨rfl, rfl, rfl, rfl, rfl⟩ rfl rfl rfl rfl rfl (by kernel_rfl) Try.func12 (by kernel_rfl)
    (of_decide_eq_true (by kernel_rfl)) (by unfold Func.isWrapper; first | (rw [if_pos (by decide +kernel)]; kernel_rfl) | (rw [if_neg (by decide +kernel)]; exact ⟨rfl, rfl⟩))
    (fun os started H enc _ => lifted os started H enc)
end Go.Proofs.Ytkamopckpmiioaa.fnExactTableOfTerms
