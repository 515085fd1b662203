/-
  For every table of two ints, MaximalZeros of the program answers the same list as the model's, in new memory that a second call does not share, and writes into nothing that was there. No condition.
-/
import Derived.Test.YtlmhdocfdpbhmaaRows
import Derived.WalkKit
import Derived.ProofKit
import Derived.OpenShut
import Derived.ShutString
import Derived.Carry
import Derived.Below
import Derived.Lib.SmallJoins
import Derived.Test.YtlmhdocfdpbhmaaMonV
namespace Go.Proofs.Ytlmhdocfdpbhmaa.fnExactMaximalZeros
open Go.ChangeShapes Go.WideShapes Go.ChangeAt Go.RowKit
open Go.ChangeMaps (open_string shut_string)
open Go.Joins
set_option linter.unusedVariables false

theorem own : ownKnob Try.prog.godebug = none := by kernel_rfl
theorem laidOut : laidOutB Try.prog = true := by kernel_rfl

open Plain
theorem grow2 {B : Nat} {W0 w w' : World} {v : Value} (h : Below B W0 w) (hg : w.grownBy w' v.ownBlock) (hB : ∀ k, v.ownBlock = some k → B ≤ k) (hz : B ≤ w.heap.size) : Below B W0 w' :=
  h.grown hg hz hB

theorem rowsApart {v g : Value} {Z : Nat} (hv : ∀ k, v.ownBlock = some k → k < Z) (hg : ∀ k, g.ownBlock = some k → Z ≤ k) : v.ownBlock = none ∨ v.ownBlock ≠ g.ownBlock := by
  cases h : v.ownBlock with
  | none => exact .inl rfl
  | some k =>
    refine .inr fun e => ?_
    have h1 := hv k h
    have h2 := hg k e.symm
    omega
theorem boxApart {g : Value} {Z b : Nat} (hb : b < Z) (hg : ∀ k, g.ownBlock = some k → Z ≤ k) : some b ≠ g.ownBlock := fun e => by
  have := hg b e.symm
  omega

set_option maxRecDepth 100000 in
set_option maxHeartbeats 2000000 in
theorem walk (a0_0 a0_1 : Int) (W : World) (w0_0 : (Lit.int .i64 a0_0).wf = true) (w0_1 : (Lit.int .i64 a0_1).wf = true) :
    Calls Try.prog 7 #[.agg #[.int .i64 a0_0, .int .i64 a0_1]] W fun e w' => e = .returned (.bool true) ∧ Below W.heap.size W w' := by
  have hb := bounds64 w0_1
  have HI := Lib.hid (Maz.impl a0_0 a0_1 hb)
  have HM := Lib.hid (Maz.model a0_0 a0_1)
  obtain ⟨hlen, hmem⟩ := turT_ok 0 a0_0 a0_1
  have HMEM : Hid (∀ x ∈ turT 0 a0_0 a0_1, -9223372036854775808 ≤ x ∧ x ≤ 9223372036854775807) := Lib.hid (fun x hx => by have := hmem x hx; omega)
  clear hb w0_0 w0_1 hmem
  generalize turT 0 a0_0 a0_1 = l at HI HM HMEM hlen
  obtain ⟨q, hq, hq0⟩ : ∃ q : Int, ((1 + l.length : Nat) : Int) = q ∧ 0 ≤ q := ⟨_, rfl, by omega⟩
  have HQ := Lib.hid hq
  clear hq
  go_enter Try.func7, Try.ntmps7
  go_wp2_with fail
  refine (Tab.copy _ _ _).mono ?_
  rintro e w1 ⟨rfl, hb1⟩
  obtain ⟨hc1, hf1⟩ := bcell hb1
  have hz1 := hb1.size
  simp only [World.size_alloc] at hz1
  have k0 : w1.cell? ⟨W.heap.size, 0, none⟩ = some (.int .i64 a0_0) := keepB hb1 (keepN rfl rfl)
  have k1 : w1.cell? ⟨W.heap.size, 1, none⟩ = some (.int .i64 a0_1) := keepB hb1 (keepN rfl rfl)
  have B1 := Lib.hid (((Below.refl W.heap.size W).alloc (Nat.le_refl _) _).trans (hb1.mono (by simp)))
  clear hb1 hc1 hf1
  go_wp2_with fail
  refine (HM.out _).mono ?_
  rintro e w2 ⟨v0, rfl, hr2, hb2⟩
  have hz2 := hb2.size
  have m0 := keepB hb2 k0
  have m1 := keepB hb2 k1
  have R0 := Lib.hid hr2
  have B2 := Lib.hid (B1.out.trans (hb2.mono (by omega)))
  clear hb2 hr2 k0 k1
  go_wp2_with fail
  refine (Tab.copy _ _ _).mono ?_
  rintro e w3 ⟨rfl, hb3⟩
  have hz3 := hb3.size
  have R0a := Lib.hid (R0.out.below hb3)
  have n0 := keepB hb3 m0
  have n1 := keepB hb3 m1
  have B3 := Lib.hid (B2.out.trans (hb3.mono (by omega)))
  clear hb3 m0 m1
  go_wp2_with fail
  refine (HI.out _).mono ?_
  rintro e w4 ⟨g0, rfl, hr4, hb4⟩
  have hz4 := hb4.size
  have R0b := Lib.hid (R0a.out.below hb4)
  have G0 := Lib.hid hr4
  have p0 := keepB hb4 n0
  have p1 := keepB hb4 n1
  have B4 := Lib.hid (B3.out.trans (hb4.mono (by omega)))
  clear hb4 hr4 n0 n1
  go_wp2_with fail
  refine (Ints.same _ _ l _ (G0.out.ints (by omega) HMEM.out) (R0b.out.ints (by omega) HMEM.out)).mono ?_
  rintro e w5 ⟨rfl, q5, rfl⟩
  go_wp2_with fail
  refine (Ints.mark w3.heap.size g0 l 1 _ (by omega) (G0.out.below (below_drewN (Below.refl _ _) q5))).mono ?_
  rintro e w6 ⟨rfl, hr6, hg6⟩
  rw [HQ.out]
  have hB3 : ∀ k, g0.ownBlock = some k → w3.heap.size ≤ k := fun k hk => (G0.out.lt k hk).1
  have hz6 := hg6.size
  simp only [World.heap_drewN] at hz6
  have R0c := Lib.hid ((R0b.out.below (below_drewN (Below.refl _ _) q5)).kept hg6 (rowsApart (Z := w3.heap.size) (fun k hk => by have := (R0.out.lt k hk).2; omega) hB3))
  have r0 : w6.cell? ⟨W.heap.size, 0, none⟩ = some (.int .i64 a0_0) := hg6.cell (by simpa using p0) (boxApart (b := W.heap.size) (Z := w3.heap.size) (by omega) hB3)
  have r1 : w6.cell? ⟨W.heap.size, 1, none⟩ = some (.int .i64 a0_1) := hg6.cell (by simpa using p1) (boxApart (b := W.heap.size) (Z := w3.heap.size) (by omega) hB3)
  have B6 := Lib.hid (grow2 (below_drewN B4.out q5) hg6 (fun k hk => by have := hB3 k hk; omega) (by simp; omega))
  have G6 := Lib.hid hr6
  clear hr6 hg6 p0 p1
  go_wp2_with fail
  refine (Ints.held g0 1 l.length _ (by omega) (G6.out.ints (by rw [marks_length]; omega) (marks_bound _ _ (by omega)))).mono ?_
  rintro e w7 ⟨rfl, rfl⟩
  rw [HQ.out]
  go_wp2_with fail
  refine (Tab.copy _ _ _).mono ?_
  rintro e w8 ⟨rfl, hb8⟩
  have hz8 := hb8.size
  have R0d := Lib.hid (R0c.out.below hb8)
  have G8 := Lib.hid (G6.out.below hb8)
  have B8 := Lib.hid (B6.out.trans (hb8.mono (by omega)))
  clear hb8 r0 r1
  go_wp2_with fail
  refine (HI.out _).mono ?_
  rintro e w9 ⟨h0, rfl, hr9, hb9⟩
  have hz9 := hb9.size
  have R0e := Lib.hid (R0d.out.below hb9)
  have G9 := Lib.hid (G8.out.below hb9)
  have H0 := Lib.hid hr9
  have B9 := Lib.hid (B8.out.trans (hb9.mono (by omega)))
  clear hb9 hr9
  go_wp2_with fail
  refine (Ints.same _ _ l _ (H0.out.ints (by omega) HMEM.out) (R0e.out.ints (by omega) HMEM.out)).mono ?_
  rintro e w10 ⟨rfl, q10, rfl⟩
  go_wp2_with fail
  refine (Ints.held g0 1 l.length _ (by omega) ((G9.out.below (below_drewN (Below.refl _ _) q10)).ints (by rw [marks_length]; omega) (marks_bound _ _ (by omega)))).mono ?_
  rintro e w11 ⟨rfl, rfl⟩
  rw [HQ.out]
  go_wp2
  go_ret
  exact ⟨rfl, below_drewN B9.out q10⟩

set_option maxRecDepth 100000 in
theorem lifted (os : Os) (started : os.Started) (H : Type) (enc : TypeId × Value → H) :
    ReturnsInHanded {} Try.checked os 7 .any (Rows.fnExactMaximalZerosSpec.pre6 enc Try.prog Try.f7 Rows.fnExactMaximalZerosRow.domain false) (Rows.fnExactMaximalZerosSpec.post enc Try.prog Try.f7 false true false false) := by
  refine returnsInHanded_of_change (C := Try.checked) own started (by kernel_rfl) Try.func7
    (ChangeSpec.witness6 (enc := enc) (C := Try.checked) false ⟨#[], #[.agg #[.int .i64 0, .int .i64 0]], []⟩ 8 (by kernel_rfl) (by kernel_rfl) (by kernel_rfl) (by kernel_rfl)) ?_
  intro W base args ds gs before hval0 hW hcnd _
  have hval : ∀ (j : Nat) t v, Try.f7.params[j]? = some t → args[j]? = some v → Value.okWide Try.prog W .any base t v := hval0
  have hW' := hW
  obtain ⟨p, q, hA0, hV, rfl, hfz, hnd⟩ := hW
  have hA : DataW.TrodAll enc Try.prog W 0 (fun _ => true) true Try.f7.params.toList args.toList ds p := hA0
  rw [Try.params7] at hA hval
  obtain ⟨v0, vs0, d0, ds0, p0, q0, hargs, rfl, rfl, h0, r0⟩ := trodAll_cons hA
  obtain ⟨rfl, rfl, rfl⟩ := trodAll_nil r0
  obtain rfl : args = #[v0] := by cases args; simp_all
  obtain ⟨rfl, rfl⟩ := trodVars_none hV
  have k0 := h0
  have lt0 : ∀ x ∈ p0, x.block < W.heap.size := by obtain ⟨m, hm⟩ := k0; exact DataW.trod_lt m _ _ _ hm
  obtain ⟨c0_0, c0_1, y0_0, y0_1, m0, rfl, hd0, hp0, hy0_0, hy0_1⟩ := open_agg2 Try.underlying52 (by kernel_rfl) (by kernel_rfl) (hval 0 52 v0 rfl rfl) h0
  obtain ⟨a0_0, e0_0, he0_0, w0_0⟩ := DataW.trod_int Try.underlying3 hy0_0
  simp at e0_0
  subst e0_0
  obtain ⟨a0_1, e0_1, he0_1, w0_1⟩ := DataW.trod_int Try.underlying3 hy0_1
  simp at e0_1
  subst e0_1
  clear hA0 hval0
  simp only [List.append_nil] at hW'
  refine (walk a0_0 a0_1 W w0_0 w0_1).mono fun e W' ⟨he, bel⟩ => ?_
  subst he
  exact ⟨_, rfl, _, _, _, [], _, [], hW', trodAll_mk1 (shut_bool Try.underlying4 _), (trodAll_cons_mk (Below.trod laidOut (by kernel_rfl) (of_decide_eq_true (by kernel_rfl)) k0 bel lt0) trodAll_mk0), rfl, bel.frame _, fun h => by cases h⟩

theorem proved : Rows.FnExactMaximalZerosSaid :=
  OpenClaim.holds_of_wide 7 Try.f7 rfl rfl rfl rfl rfl rfl rfl ⟨rfl, rfl, rfl, rfl, rfl⟩ rfl rfl rfl rfl rfl (by kernel_rfl) Try.func7 (by kernel_rfl)
    (of_decide_eq_true (by kernel_rfl)) (by unfold Func.isWrapper; first | (rw [if_pos (by decide +kernel)]; kernel_rfl) | (rw [if_neg (by decide +kernel)]; exact ⟨rfl, rfl⟩))
    (fun os started H enc _ => lifted os started H enc)
end Go.Proofs.Ytlmhdocfdpbhmaa.fnExactMaximalZeros
