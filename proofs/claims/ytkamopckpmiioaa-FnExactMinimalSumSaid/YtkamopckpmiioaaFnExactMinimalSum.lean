/-
  For every table of two ints, MinimalSum of the program answers the same list of terms and the same bool as the model's, in memory of its own that no later call writes into, and writes into nothing that was there. No condition.
-/
import Derived.Test.YtkamopckpmiioaaRows
import Derived.WalkKit
import Derived.ProofKit
import Derived.OpenShut
import Derived.ShutString
import Derived.Carry
import Derived.Below
import Derived.Lib.SmallJoins
import Derived.Test.YtkamopckpmiioaaTrmN
namespace Go.Proofs.Ytkamopckpmiioaa.fnExactMinimalSum
open Go.ChangeShapes Go.WideShapes Go.ChangeAt Go.RowKit
open Go.ChangeMaps (open_string shut_string)
open Go.Joins
set_option linter.unusedVariables false

theorem own : ownKnob Try.prog.godebug = none := by kernel_rfl
theorem laidOut : laidOutB Try.prog = true := by kernel_rfl

open Plain
set_option maxRecDepth 100000 in
set_option maxHeartbeats 1000000 in
theorem walk (a0_0 a0_1 : Int) (W : World) (w0_0 : (Lit.int .i64 a0_0).wf = true) (w0_1 : (Lit.int .i64 a0_1).wf = true) :
    Calls Try.prog 11 #[.agg #[.int .i64 a0_0, .int .i64 a0_1]] W fun e w' => e = .returned (.bool true) ∧ Below W.heap.size W w' := by
  have HI := Lib.hid (Min.I a0_0 a0_1 (bounds64 w0_1))
  have HM := Lib.hid (Min.M a0_0 a0_1)
  have HS := Lib.hid (minT_ok a0_0 a0_1)
  clear w0_0 w0_1
  generalize minT a0_0 a0_1 = L at HI HM HS
  generalize minOk a0_0 a0_1 = c at HI HM
  have hl : L.length ≤ 243 := HS.out.1
  have hmk : 1 + 2 * L.length ≤ 487 := by omega
  obtain ⟨z, hz⟩ : ∃ z : Int, ((1 + 2 * L.length : Nat) : Int) = z := ⟨_, rfl⟩
  have z0 : 1 ≤ z := by omega
  have z1 : z ≤ 487 := by omega
  have HMK : Hid (∀ (B : Nat) (v : Value) (w : World), TmRow w B v L → Calls Try.prog 32 #[v, .int .i64 1] w fun e w' => e = .returned (.int .i64 z) ∧ TmRow w' B v (marks2 1 L.length) ∧ w.grownBy w' v.ownBlock) := Lib.hid (fun B v w h => hz ▸ Trms.mark B v L 1 w (by omega) h)
  have HHD : Hid (∀ (v : Value) (w : World), TmsIn w v (marks2 1 L.length) → Calls Try.prog 33 #[v, .int .i64 1] w fun e w' => e = .returned (.int .i64 z) ∧ w = w') := Lib.hid (fun v w h => hz ▸ Trms.held v 1 L.length w (by omega) h)
  have HSM := Lib.hid (marks2_bound 1 L.length (by omega))
  have HLM : Hid ((marks2 1 L.length).length ≤ 2000000) := Lib.hid (by rw [marks2_length]; omega)
  have HL : Hid (L.length ≤ 2000000) := Lib.hid (by omega)
  clear hz hl hmk
  go_enter Try.func11, Try.ntmps11
  go_wp2_with fail
  refine (Tab.copy _ _ _).mono ?_
  rintro e w1 ⟨rfl, hb1⟩
  obtain ⟨hc1, hf1⟩ := bcell hb1
  have k0 : w1.cell? ⟨W.heap.size, 0, none⟩ = some (.int .i64 a0_0) := keepB hb1 (keepN rfl rfl)
  have k1 : w1.cell? ⟨W.heap.size, 1, none⟩ = some (.int .i64 a0_1) := keepB hb1 (keepN rfl rfl)
  have HB1 := Lib.hid (bB hb1 (by simp) (bA (Nat.le_refl _) (Below.refl W.heap.size W)) : Below W.heap.size W w1)
  have s1 : W.heap.size < w1.heap.size := by have := hb1.size; simp at this; omega
  clear hb1 hc1 hf1
  go_wp2_with fail
  refine (HM.out _).mono ?_
  rintro e w2 ⟨⟨v, rfl, hrow⟩, hb2⟩
  have j0 := keepB hb2 k0
  have j1 := keepB hb2 k1
  have HR2 := Lib.hid (hrow.terms HL.out HS.out.2)
  have HB2 := Lib.hid (bstep HB1.out (hb2.mono (Nat.le_refl _)))
  have s2 : W.heap.size < w2.heap.size := by have := hb2.size; omega
  clear hb2 hrow k0 k1 HB1
  go_wp2_with fail
  refine (Tab.copy _ _ _).mono ?_
  rintro e w3 ⟨rfl, hb3⟩
  have k0 := keepB hb3 j0
  have k1 := keepB hb3 j1
  have HR3 := Lib.hid (HR2.out.below hb3)
  have HB3 := Lib.hid (bstep HB2.out (hb3.mono (Nat.le_refl _)))
  have s3 : W.heap.size < w3.heap.size := by have := hb3.size; omega
  clear hb3 j0 j1 HR2 HB2
  go_wp2_with fail
  refine (HI.out _).mono ?_
  rintro e w4 ⟨⟨u, rfl, hrow⟩, hb4⟩
  have HU4 := Lib.hid hrow
  have HV4 := Lib.hid hb4
  clear hrow hb4
  go_wp2_with fail
  refine (Trms.same _ _ L _ (HU4.out.terms HL.out HS.out.2) (HR3.out.below HV4.out)).mono ?_
  rintro e w5 ⟨rfl, hb5⟩
  have HU5 := Lib.hid (HU4.out.below hb5)
  have HV5 := Lib.hid (bstep HV4.out hb5)
  clear hb5 HU4 HV4
  go_wp2_with fail
  refine (HMK.out w3.heap.size u _ HU5.out).mono ?_
  rintro e w6 ⟨rfl, hm, hg⟩
  have HV6 := Lib.hid (HV5.out.trans ((Below.refl w3.heap.size w5).grown hg HV5.out.size (fun k e => (HU5.out.lt k e).1)))
  have HU6 := Lib.hid (hm.terms HLM.out HSM.out)
  clear hm hg HU5 HV5
  go_wp2_with fail
  refine (HHD.out u _ HU6.out).mono ?_
  rintro e w7 ⟨rfl, rfl⟩
  have j0 := keepB HV6.out k0
  have j1 := keepB HV6.out k1
  have s6 : W.heap.size < w6.heap.size := by have := HV6.out.size; omega
  go_wp2_with fail
  refine (Tab.copy _ _ _).mono ?_
  rintro e w7 ⟨rfl, hb7⟩
  have HV7 := Lib.hid (bstep HV6.out hb7)
  have HU7 := Lib.hid (HU6.out.below hb7)
  clear hb7 HV6 HU6 j0 j1
  go_wp2_with fail
  refine (HI.out _).mono ?_
  rintro e w8 ⟨⟨u2, rfl, hrow⟩, hb8⟩
  have HV8 := Lib.hid (bstep HV7.out hb8)
  have HU8 := Lib.hid (HU7.out.below hb8)
  have HX8 := Lib.hid (hrow.terms HL.out HS.out.2)
  clear hrow hb8 HV7 HU7
  go_wp2_with fail
  refine (Trms.same _ _ L _ HX8.out (HR3.out.below HV8.out)).mono ?_
  rintro e w9 ⟨rfl, hb9⟩
  have HV9 := Lib.hid (bstep HV8.out hb9)
  have HU9 := Lib.hid (HU8.out.below hb9)
  clear hb9 HV8 HU8 HX8
  go_wp2_with fail
  refine (HHD.out u _ HU9.out).mono ?_
  rintro e w10 ⟨rfl, rfl⟩
  go_wp2
  go_ret
  exact ⟨rfl, bstep HB3.out HV9.out⟩

set_option maxRecDepth 100000 in
theorem lifted (os : Os) (started : os.Started) (H : Type) (enc : TypeId × Value → H) :
    ReturnsInHanded {} Try.checked os 11 .any (Rows.fnExactMinimalSumSpec.pre6 enc Try.prog Try.f11 Rows.fnExactMinimalSumRow.domain false) (Rows.fnExactMinimalSumSpec.post enc Try.prog Try.f11 false true false false) := by
  refine returnsInHanded_of_change (C := Try.checked) own started (by kernel_rfl) Try.func11
    (ChangeSpec.witness6 (enc := enc) (C := Try.checked) false ⟨#[], #[.agg #[.int .i64 0, .int .i64 0]], []⟩ 8 (by kernel_rfl) (by kernel_rfl) (by kernel_rfl) (by kernel_rfl)) ?_
  intro W base args ds gs before hval0 hW hcnd _
  have hval : ∀ (j : Nat) t v, Try.f11.params[j]? = some t → args[j]? = some v → Value.okWide Try.prog W .any base t v := hval0
  have hW' := hW
  obtain ⟨p, q, hA0, hV, rfl, hfz, hnd⟩ := hW
  have hA : DataW.TrodAll enc Try.prog W 0 (fun _ => true) true Try.f11.params.toList args.toList ds p := hA0
  rw [Try.params11] at hA hval
  obtain ⟨v0, vs0, d0, ds0, p0, q0, hargs, rfl, rfl, h0, r0⟩ := trodAll_cons hA
  obtain ⟨rfl, rfl, rfl⟩ := trodAll_nil r0
  obtain rfl : args = #[v0] := by cases args; simp_all
  obtain ⟨rfl, rfl⟩ := trodVars_none hV
  have k0 := h0
  have lt0 : ∀ x ∈ p0, x.block < W.heap.size := by obtain ⟨m, hm⟩ := k0; exact DataW.trod_lt m _ _ _ hm
  obtain ⟨c0_0, c0_1, y0_0, y0_1, m0, rfl, hd0, hp0, hy0_0, hy0_1⟩ := open_agg2 Try.underlying36 (by kernel_rfl) (by kernel_rfl) (hval 0 36 v0 rfl rfl) h0
  obtain ⟨a0_0, e0_0, he0_0, w0_0⟩ := DataW.trod_int Try.underlying3 hy0_0
  simp at e0_0
  subst e0_0
  obtain ⟨a0_1, e0_1, he0_1, w0_1⟩ := DataW.trod_int Try.underlying3 hy0_1
  simp at e0_1
  subst e0_1
  clear hA0 hval0
  simp only [List.append_nil] at hW'
  refine (walk a0_0 a0_1 W w0_0 w0_1).mono fun e W' ⟨he, bel⟩ => ?_
  subst he
  exact ⟨_, rfl, _, _, _, [], _, [], hW', trodAll_mk1 (shut_bool Try.underlying4 _), (trodAll_cons_mk (Below.trod laidOut (by kernel_rfl) (of_decide_eq_true (by kernel_rfl)) k0 bel lt0) trodAll_mk0), rfl, bel.frame _, fun h => by cases h⟩

theorem proved : Rows.FnExactMinimalSumSaid :=
  OpenClaim.holds_of_wide 11 Try.f11 rfl rfl rfl rfl rfl rfl rfl ⟨rfl, rfl, rfl, rfl, rfl⟩ rfl rfl rfl rfl rfl (by kernel_rfl) Try.func11 (by kernel_rfl)
    (of_decide_eq_true (by kernel_rfl)) (by unfold Func.isWrapper; first | (rw [if_pos (by decide +kernel)]; kernel_rfl) | (rw [if_neg (by decide +kernel)]; exact ⟨rfl, rfl⟩))
    (fun os started H enc _ => lifted os started H enc)
end Go.Proofs.Ytkamopckpmiioaa.fnExactMinimalSum
