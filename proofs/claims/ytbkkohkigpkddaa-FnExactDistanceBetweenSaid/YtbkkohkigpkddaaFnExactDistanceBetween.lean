/-
  For every two tables of two ints, DistanceBetween of the program answers the same number as the model's, and writes into nothing that was there. No condition.
-/
import Derived.Test.YtbkkohkigpkddaaRows
import Derived.WalkKit
import Derived.ProofKit
import Derived.OpenShut
import Derived.ShutString
import Derived.Carry
import Derived.Below
import Derived.Lib.SmallJoins
import Derived.Test.YtbkkohkigpkddaaLinJ
import Derived.Deep.RegionHeld3
import Derived.Deep.DeepCutAuto
import Derived.Deep.DrawnRows
namespace Go.Proofs.Ytbkkohkigpkddaa.fnExactDistanceBetween
open Go.ChangeShapes Go.WideShapes Go.ChangeAt Go.RowKit
open Go.ChangeMaps (open_string shut_string)
open Go.Joins
set_option linter.unusedVariables false

theorem own : ownKnob Try.prog.godebug = none := by kernel_rfl
theorem laidOut : laidOutB Try.prog = true := by kernel_rfl

open Plain
attribute [local go_sem ↓] Go.wp_at_zero Go.wp_at_succ
set_option maxRecDepth 100000 in
set_option maxHeartbeats 1600000 in
theorem walk (a0_0 a0_1 a1_0 a1_1 : Int) (W : World) (w0_0 : (Lit.int .i64 a0_0).wf = true) (w0_1 : (Lit.int .i64 a0_1).wf = true) (w1_0 : (Lit.int .i64 a1_0).wf = true) (w1_1 : (Lit.int .i64 a1_1).wf = true) :
    Calls Try.prog 7 #[.agg #[.int .i64 a0_0, .int .i64 a0_1], .agg #[.int .i64 a1_0, .int .i64 a1_1]] W fun e w' => e = .returned (.bool true) ∧ Below W.heap.size W w' := by
  have HM := Lib.hid (Dis.model a0_0 a0_1 a1_0 a1_1)
  have HI := Lib.hid (Dis.impl a0_0 a0_1 a1_0 a1_1 (bounds64 w0_1) (bounds64 w1_1))
  clear w0_0 w0_1 w1_0 w1_1
  generalize disT a0_0 a0_1 a1_0 a1_1 = r at HM HI
  go_enter Try.func7, Try.ntmps7
  go_upto_region 1 with fail
  go_cut [5] (fun s wx => s = .int .i64 r ∧ Below (W.heap.size + 2) ((W.alloc (.cells #[.int .i64 a0_0, .int .i64 a0_1] 23)).alloc (.cells #[.int .i64 a1_0, .int .i64 a1_1] 23)) wx)
  case first =>
    go_region_held3 (fun w' => w'.cell? ⟨W.heap.size, 0, none⟩ = some (.int .i64 a0_0) ∧ w'.cell? ⟨W.heap.size, 1, none⟩ = some (.int .i64 a0_1) ∧ w'.cell? ⟨W.heap.size + 1, 0, none⟩ = some (.int .i64 a1_0) ∧ w'.cell? ⟨W.heap.size + 1, 1, none⟩ = some (.int .i64 a1_1)) ((first | (go_split_ands; (try dsimp only); (refine ⟨?_, ?_, ?_, ?_⟩ <;> (repeat (first | with_reducible assumption | ((with_reducible refine keepU ?_); (with_reducible assumption)) | (with_reducible refine keepD ?_) | ((with_reducible refine keepN ?_ ?_); (focus (simp; done)); (focus rfl)) | (with_reducible refine keepA ?_) | ((with_reducible refine keepS ?_ ?_); (focus (dsimp only; omega))) | (with_reducible refine keepB hb ?_)))); done) | go_keep))
      (first
        | (go_at_call 10; refine (Tab.copyX _ _ _).mono ?_; rintro e w' ⟨rfl, rfl⟩)
        | (go_at_call 19; refine (HM.out _).mono ?_; rintro e w14 ⟨rfl, hb⟩; obtain ⟨hc, hf⟩ := bcell hb; have hs := hb.size; simp only [World.size_alloc, World.size_drew] at hs))
    all_goals
      go_wp2_with fail
      go_meet
      exact ⟨rfl, by repeat (first | (with_reducible exact Below.refl _ _) | (with_reducible assumption) | ((with_reducible refine bS ?_ ?_); (focus (dsimp only; omega))) | ((with_reducible refine bA ?_ ?_); (focus (first | omega | (simp; done) | (simp; omega)))) | (with_reducible refine bD ?_) | ((with_reducible refine bB hb ?_ ?_); (focus (first | omega | (simp; done) | (simp; omega)))))⟩
  case rest =>
    obtain ⟨rfl, hbel⟩ := hcut
    have k0 : wc.cell? ⟨W.heap.size, 0, none⟩ = some (.int .i64 a0_0) := (hbel.cell (by dsimp only; omega)).trans (keepA (keepN rfl rfl))
    have k1 : wc.cell? ⟨W.heap.size, 1, none⟩ = some (.int .i64 a0_1) := (hbel.cell (by dsimp only; omega)).trans (keepA (keepN rfl rfl))
    have k2 : wc.cell? ⟨W.heap.size + 1, 0, none⟩ = some (.int .i64 a1_0) := (hbel.cell (by dsimp only; omega)).trans (keepN (by simp) rfl)
    have k3 : wc.cell? ⟨W.heap.size + 1, 1, none⟩ = some (.int .i64 a1_1) := (hbel.cell (by dsimp only; omega)).trans (keepN (by simp) rfl)
    have hsw := hbel.size
    simp only [World.size_alloc] at hsw
    go_upto_region 2 with fail
    go_cut [6] (fun s wx => s = .int .i64 r ∧ Below (W.heap.size + 2) ((W.alloc (.cells #[.int .i64 a0_0, .int .i64 a0_1] 23)).alloc (.cells #[.int .i64 a1_0, .int .i64 a1_1] 23)) wx)
    case first =>
      go_region_held3 (fun w' => w'.cell? ⟨W.heap.size, 0, none⟩ = some (.int .i64 a0_0) ∧ w'.cell? ⟨W.heap.size, 1, none⟩ = some (.int .i64 a0_1) ∧ w'.cell? ⟨W.heap.size + 1, 0, none⟩ = some (.int .i64 a1_0) ∧ w'.cell? ⟨W.heap.size + 1, 1, none⟩ = some (.int .i64 a1_1)) ((first | (go_split_ands; (try dsimp only); (refine ⟨?_, ?_, ?_, ?_⟩ <;> (repeat (first | with_reducible assumption | ((with_reducible refine keepU ?_); (with_reducible assumption)) | (with_reducible refine keepD ?_) | ((with_reducible refine keepN ?_ ?_); (focus (simp; done)); (focus rfl)) | (with_reducible refine keepA ?_) | ((with_reducible refine keepS ?_ ?_); (focus (dsimp only; omega))) | (with_reducible refine keepB hb ?_)))); done) | go_keep))
        (first
          | (go_at_call 10; refine (Tab.copyX _ _ _).mono ?_; rintro e w' ⟨rfl, rfl⟩)
          | (go_at_call 20; refine (HI.out _).mono ?_; rintro e w14 ⟨rfl, hb⟩; obtain ⟨hc, hf⟩ := bcell hb; have hs := hb.size; simp only [World.size_alloc, World.size_drew] at hs))
      all_goals
        go_wp2_with fail
        go_meet
        exact ⟨rfl, by repeat (first | (with_reducible exact Below.refl _ _) | (with_reducible assumption) | ((with_reducible refine bS ?_ ?_); (focus (dsimp only; omega))) | ((with_reducible refine bA ?_ ?_); (focus (first | omega | (simp; done) | (simp; omega)))) | (with_reducible refine bD ?_) | ((with_reducible refine bB hb ?_ ?_); (focus (first | omega | (simp; done) | (simp; omega)))))⟩
    case rest =>
      obtain ⟨rfl, hbel2⟩ := hcut
      go_wp2
      go_ret
      exact ⟨rfl, (((Below.refl _ _).alloc (Nat.le_refl _) _).alloc (by simp) _).trans (hbel2.mono (by omega))⟩

set_option maxRecDepth 100000 in
theorem lifted (os : Os) (started : os.Started) (H : Type) (enc : TypeId × Value → H) :
    ReturnsInHanded {} Try.checked os 7 .any (Rows.fnExactDistanceBetweenSpec.pre6 enc Try.prog Try.f7 Rows.fnExactDistanceBetweenRow.domain false) (Rows.fnExactDistanceBetweenSpec.post enc Try.prog Try.f7 false true false false) := by
  refine returnsInHanded_of_change (C := Try.checked) own started (by kernel_rfl) Try.func7
    (ChangeSpec.witness6 (enc := enc) (C := Try.checked) false ⟨#[], #[.agg #[.int .i64 0, .int .i64 0], .agg #[.int .i64 0, .int .i64 0]], []⟩ 8 (by kernel_rfl) (by kernel_rfl) (by kernel_rfl) (by kernel_rfl)) ?_
  intro W base args ds gs before hval0 hW hcnd _
  have hval : ∀ (j : Nat) t v, Try.f7.params[j]? = some t → args[j]? = some v → Value.okWide Try.prog W .any base t v := hval0
  have hW' := hW
  obtain ⟨p, q, hA0, hV, rfl, hfz, hnd⟩ := hW
  have hA : DataW.TrodAll enc Try.prog W 0 (fun _ => true) true Try.f7.params.toList args.toList ds p := hA0
  rw [Try.params7] at hA hval
  obtain ⟨v0, vs0, d0, ds0, p0, q0, hargs, rfl, rfl, h0, r0⟩ := trodAll_cons hA
  obtain ⟨v1, vs1, d1, ds1, p1, q1, rfl, rfl, rfl, h1, r1⟩ := trodAll_cons r0
  obtain ⟨rfl, rfl, rfl⟩ := trodAll_nil r1
  obtain rfl : args = #[v0, v1] := by cases args; simp_all
  obtain ⟨rfl, rfl⟩ := trodVars_none hV
  have k0 := h0
  have lt0 : ∀ x ∈ p0, x.block < W.heap.size := by obtain ⟨m, hm⟩ := k0; exact DataW.trod_lt m _ _ _ hm
  obtain ⟨c0_0, c0_1, y0_0, y0_1, m0, rfl, hd0, hp0, hy0_0, hy0_1⟩ := open_agg2 Try.underlying23 (by kernel_rfl) (by kernel_rfl) (hval 0 23 v0 rfl rfl) h0
  obtain ⟨a0_0, e0_0, he0_0, w0_0⟩ := DataW.trod_int Try.underlying3 hy0_0
  simp at e0_0
  subst e0_0
  obtain ⟨a0_1, e0_1, he0_1, w0_1⟩ := DataW.trod_int Try.underlying3 hy0_1
  simp at e0_1
  subst e0_1
  have k1 := h1
  have lt1 : ∀ x ∈ p1, x.block < W.heap.size := by obtain ⟨m, hm⟩ := k1; exact DataW.trod_lt m _ _ _ hm
  obtain ⟨c1_0, c1_1, y1_0, y1_1, m1, rfl, hd1, hp1, hy1_0, hy1_1⟩ := open_agg2 Try.underlying23 (by kernel_rfl) (by kernel_rfl) (hval 1 23 v1 rfl rfl) h1
  obtain ⟨a1_0, e1_0, he1_0, w1_0⟩ := DataW.trod_int Try.underlying3 hy1_0
  simp at e1_0
  subst e1_0
  obtain ⟨a1_1, e1_1, he1_1, w1_1⟩ := DataW.trod_int Try.underlying3 hy1_1
  simp at e1_1
  subst e1_1
  clear hA0 hval0
  simp only [List.append_nil] at hW'
  refine (walk a0_0 a0_1 a1_0 a1_1 W w0_0 w0_1 w1_0 w1_1).mono fun e W' ⟨he, bel⟩ => ?_
  subst he
  exact ⟨_, rfl, _, _, _, [], _, [], hW', trodAll_mk1 (shut_bool Try.underlying4 _), (trodAll_cons_mk (Below.trod laidOut (by kernel_rfl) (of_decide_eq_true (by kernel_rfl)) k0 bel lt0) (trodAll_cons_mk (Below.trod laidOut (by kernel_rfl) (of_decide_eq_true (by kernel_rfl)) k1 bel lt1) trodAll_mk0)), rfl, bel.frame _, fun h => by cases h⟩

theorem proved : Rows.FnExactDistanceBetweenSaid :=
  OpenClaim.holds_of_wide 7 Try.f7 rfl rfl rfl rfl rfl rfl rfl ⟨rfl, rfl, rfl, rfl, rfl⟩ rfl rfl rfl rfl rfl (by kernel_rfl) Try.func7 (by kernel_rfl)
    (of_decide_eq_true (by kernel_rfl)) (by unfold Func.isWrapper; first | (rw [if_pos (by decide +kernel)]; kernel_rfl) | (rw [if_neg (by decide +kernel)]; exact ⟨rfl, rfl⟩))
    (fun os started H enc _ => lifted os started H enc)
end Go.Proofs.Ytbkkohkigpkddaa.fnExactDistanceBetween
