/-
  For every int, PermutationsOf of the program answers the same lists and the same bool as the model's, in memory of their own that no later call writes into, and writes into nothing that was there. No condition.
-/
import Derived.Test.YtecakbjcnabpnaaRows
import Derived.WalkKit
import Derived.ProofKit
import Derived.OpenShut
import Derived.ShutString
import Derived.Carry
import Derived.Below
import Derived.Lib.SmallJoins
import Derived.Test.YtecakbjcnabpnaaClsF
namespace Go.Proofs.Ytecakbjcnabpnaa.fnExactPermutationsOf
open Go.ChangeShapes Go.WideShapes Go.ChangeAt Go.RowKit
open Go.ChangeMaps (open_string shut_string)
open Go.Joins
set_option linter.unusedVariables false

theorem own : ownKnob Try.prog.godebug = none := by kernel_rfl
theorem laidOut : laidOutB Try.prog = true := by kernel_rfl

open Plain
set_option maxRecDepth 100000 in
theorem walk (a0 : Int) (W : World) (w0 : (Lit.int .i64 a0).wf = true) :
    Calls Try.prog 8 #[.int .i64 a0] W fun e w' => e = .returned (.bool true) ∧ Below W.heap.size W w' := by
  have HI := Lib.hid (Perm.permI a0)
  have HM := Lib.hid (Perm.permM a0)
  have HS := Lib.hid (listP_small a0)
  clear w0
  generalize listP a0 = L at HI HM HS
  generalize okP a0 = c at HI HM
  have HS2 := Lib.hid (marks_small L 1 (by decide) HS.out)
  obtain ⟨z0, z1⟩ := totZ_le L HS.out
  have HMK := Lib.hid (fun B v us w => Lists.mark1 B v us L w HS.out)
  have HHD := Lib.hid (fun v w => Lists.held1 v L w HS.out)
  generalize totZ L = z at z0 z1 HMK HHD
  go_enter Try.func8, Try.ntmps8
  go_wp2_with fail
  refine (HM.out _).mono ?_
  rintro e w1 ⟨⟨v, rfl, hrd⟩, hb1⟩
  have HRD := Lib.hid hrd
  have HB1 := Lib.hid hb1
  clear hrd hb1
  go_wp2_with fail
  refine (HI.out _).mono ?_
  rintro e w2 ⟨⟨u, us, rfl, hown⟩, hb2⟩
  have HU := Lib.hid hown
  have HV2 := Lib.hid hb2
  clear hown hb2
  go_wp2_with fail
  refine (Lists.same _ _ L _ (HU.out.own.rd HS.out) (HRD.out.below HV2.out)).mono ?_
  rintro e w3 ⟨rfl, m, rfl⟩
  have hd : Below w2.heap.size w2 (w2.drewN m) := below_drewN (Below.refl _ _) m
  have HU3 := Lib.hid (HU.out.below hd)
  have HV3 := Lib.hid (bstep HV2.out hd)
  clear hd HU HV2
  generalize w2.drewN m = w3 at HU3 HV3 ⊢
  go_wp2_with fail
  refine (HMK.out w1.heap.size u us _ HU3.out HV3.out.size).mono ?_
  rintro e w4 ⟨⟨rfl, hm⟩, hb4⟩
  have HU4 := Lib.hid (hm.own.rd HS2.out)
  have HV4 := Lib.hid (HV3.out.trans hb4)
  clear hm hb4 HU3 HV3
  go_wp2_with fail
  refine (HHD.out u _ HU4.out).mono ?_
  rintro e w5 ⟨rfl, rfl⟩
  go_wp2_with fail
  refine (HI.out _).mono ?_
  rintro e w6 ⟨⟨u2, us2, rfl, hown⟩, hb6⟩
  have HU6 := Lib.hid (hown.own.rd HS.out)
  have HV6 := Lib.hid (bstep HV4.out hb6)
  have HU7 := Lib.hid (HU4.out.below hb6)
  clear hown hb6 HU4 HV4
  go_wp2_with fail
  refine (Lists.same _ _ L _ HU6.out (HRD.out.below HV6.out)).mono ?_
  rintro e w7 ⟨rfl, m2, rfl⟩
  have hd : Below w6.heap.size w6 (w6.drewN m2) := below_drewN (Below.refl _ _) m2
  have HU8 := Lib.hid (HU7.out.below hd)
  have HV8 := Lib.hid (bstep HV6.out hd)
  clear hd HU7 HV6 HU6
  generalize w6.drewN m2 = w8 at HU8 HV8 ⊢
  go_wp2_with fail
  refine (HHD.out u _ HU8.out).mono ?_
  rintro e w9 ⟨rfl, rfl⟩
  go_wp2
  go_ret
  exact ⟨rfl, bstep HB1.out HV8.out⟩

set_option maxRecDepth 100000 in
theorem lifted (os : Os) (started : os.Started) (H : Type) (enc : TypeId × Value → H) :
    ReturnsInHanded {} Try.checked os 8 .any (Rows.fnExactPermutationsOfSpec.pre6 enc Try.prog Try.f8 Rows.fnExactPermutationsOfRow.domain false) (Rows.fnExactPermutationsOfSpec.post enc Try.prog Try.f8 false true false false) := by
  refine returnsInHanded_of_change (C := Try.checked) own started (by kernel_rfl) Try.func8
    (ChangeSpec.witness6 (enc := enc) (C := Try.checked) false ⟨#[], #[.int .i64 0], []⟩ 8 (by kernel_rfl) (by kernel_rfl) (by kernel_rfl) (by kernel_rfl)) ?_
  intro W base args ds gs before hval0 hW hcnd _
  have hval : ∀ (j : Nat) t v, Try.f8.params[j]? = some t → args[j]? = some v → Value.okWide Try.prog W .any base t v := hval0
  have hW' := hW
  obtain ⟨p, q, hA0, hV, rfl, hfz, hnd⟩ := hW
  have hA : DataW.TrodAll enc Try.prog W 0 (fun _ => true) true Try.f8.params.toList args.toList ds p := hA0
  rw [Try.params8] at hA hval
  obtain ⟨v0, vs0, d0, ds0, p0, q0, hargs, rfl, rfl, h0, r0⟩ := trodAll_cons hA
  obtain ⟨rfl, rfl, rfl⟩ := trodAll_nil r0
  obtain rfl : args = #[v0] := by cases args; simp_all
  obtain ⟨rfl, rfl⟩ := trodVars_none hV
  obtain ⟨a0, rfl, rfl, rfl, w0⟩ := open_int Try.underlying3 (hval 0 3 v0 rfl rfl) h0
  clear hA0 hval0
  simp only [List.append_nil] at hW'
  refine (walk a0 W w0).mono fun e W' ⟨he, bel⟩ => ?_
  subst he
  exact ⟨_, rfl, _, _, _, [], _, [], hW', trodAll_mk1 (shut_bool Try.underlying4 _), (trodAll_cons_mk (shut_int Try.underlying3 w0) trodAll_mk0), rfl, bel.frame _, fun h => by cases h⟩

theorem proved : Rows.FnExactPermutationsOfSaid :=
  OpenClaim.holds_of_wide 8 Try.f8 rfl rfl rfl rfl rfl rfl rfl ⟨rfl, rfl, rfl, rfl, rfl⟩ rfl rfl rfl rfl rfl (by kernel_rfl) Try.func8 (by kernel_rfl)
    (of_decide_eq_true (by kernel_rfl)) (by unfold Func.isWrapper; first | (rw [if_pos (by decide +kernel)]; kernel_rfl) | (rw [if_neg (by decide +kernel)]; exact ⟨rfl, rfl⟩))
    (fun os started H enc _ => lifted os started H enc)
end Go.Proofs.Ytecakbjcnabpnaa.fnExactPermutationsOf
