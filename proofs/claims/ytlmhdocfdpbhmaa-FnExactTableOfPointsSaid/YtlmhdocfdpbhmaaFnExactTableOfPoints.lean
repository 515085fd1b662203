/-
  For every int and every slice of ints, TableOfPoints of the program answers the same table and the same bool as the model's, and writes into nothing that was there, the slice included. No condition of its own: the law itself asks nothing of slices longer than 1048576.
-/
import Derived.Test.YtlmhdocfdpbhmaaRows
import Derived.WalkKit
import Derived.ProofKit
import Derived.OpenShut
import Derived.ShutString
import Derived.Carry
import Derived.Below
import Derived.Lib.SmallJoins
import Derived.Test.YtlmhdocfdpbhmaaMonU
import Derived.Test.YtlmhdocfdpbhmaaRowB
namespace Go.Proofs.Ytlmhdocfdpbhmaa.fnExactTableOfPoints
open Go.ChangeShapes Go.WideShapes Go.ChangeAt Go.RowKit
open Go.ChangeMaps (open_string shut_string)
open Go.Joins
set_option linter.unusedVariables false

theorem own : ownKnob Try.prog.godebug = none := by kernel_rfl
theorem laidOut : laidOutB Try.prog = true := by kernel_rfl

open Plain
/-- A slice of integers that came in: it is nil, or it leads to a row of 'cap' cells, the numbers 'zs', each fitting its kind. -/
def IsRow (k : IntKind) (w : World) (a : Option Addr) (len cap : Nat) (zs : List Int) : Prop :=
  (a = none ∧ len = 0 ∧ cap = 0 ∧ zs = []) ∨
  ∃ x, a = some x ∧ len ≤ cap ∧ cap ≤ maxLen ∧ zs.length = cap ∧ (∀ i, i < zs.length → w.cell? (x.add i) = some (.int k (zs.getD i 0))) ∧ ∀ n ∈ zs, (Lit.int k n).wf = true

theorem rowInts {w : World} {a : Option Addr} {len cap : Nat} {zs : List Int} (h : IsRow .i64 w a len cap zs) (hl : (len : Int) ≤ 1048576) :
    ∃ l : List Int, l.length = len ∧ IntsIn w (.slice a len cap) l := by
  rcases h with ⟨rfl, rfl, rfl, rfl⟩ | ⟨x, rfl, hlc, hm, hz, hcell, hwf⟩
  · exact ⟨[], rfl, none, 0, rfl, by decide, (fun x hx => absurd hx List.not_mem_nil), fun h => absurd h (Nat.lt_irrefl 0)⟩
  · have hlen : (zs.take len).length = len := by rw [List.length_take]; omega
    refine ⟨zs.take len, hlen, some x, cap, by rw [hlen], by omega, fun y hy => bounds64 (hwf y (List.mem_of_mem_take hy)), fun h0 => ?_⟩
    rw [hlen] at h0
    obtain ⟨ab, off, spot⟩ := x
    have hc := hcell 0 (by omega)
    have hspot : spot = none := by simpa [Addr.add] using World.cell?_spot hc
    subst hspot
    refine ⟨ab, off, rfl, World.block_lt_of_cell? w _ hc, fun j hj => ?_⟩
    rw [hlen] at hj
    have hcj := hcell j (by omega)
    rw [show (⟨ab, off, none⟩ : Addr).add j = ⟨ab, off + j, none⟩ by simp [Addr.add]] at hcj
    rw [hcj]
    congr 2
    simp [List.getD_eq_getElem?_getD, hj]

set_option maxRecDepth 100000 in
set_option maxHeartbeats 2000000 in
theorem walk (a0 : Int) (a1 : Option Addr) (len1 cap1 : Nat) (z1 : List Int) (W : World) (w0 : (Lit.int .i64 a0).wf = true) (w1 : IsRow .i64 W a1 len1 cap1 z1) :
    Calls Try.prog 12 #[.int .i64 a0, .slice a1 len1 cap1] W fun e w' => e = .returned (.bool true) ∧ Below W.heap.size W w' := by
  by_cases hlt : (len1 : Int) ≤ 1048576
  · obtain ⟨l, hl, hin⟩ := rowInts w1 hlt
    have HI := Lib.hid (fun v => Pts.impl a0 v l (by omega))
    have HM := Lib.hid (fun v => Pts.model a0 v l (by omega))
    have HIN := Lib.hid hin
    have HL := Lib.hid hl
    clear w0 w1 hin hl
    unfold tbV at HI HM
    generalize ptsT a0 l = r at HI HM
    go_enter Try.func12, Try.ntmps12
    go_wp2_with fail
    refine (Ints.copy _ l _ HIN.out).mono ?_
    rintro e w2 ⟨g2, rfl, hr2, hb2⟩
    have hz2 := hb2.size
    have R2 := Lib.hid (hr2.ints (by have := HL.out; omega) (by obtain ⟨_, _, _, _, hbd, _⟩ := HIN.out; exact hbd))
    have B2 := Lib.hid hb2
    clear hb2 hr2
    go_wp2_with fail
    refine (HM.out _ _ R2.out).mono ?_
    rintro e w3 ⟨rfl, hb3⟩
    have hz3 := hb3.size
    have B3 := Lib.hid (B2.out.trans (hb3.mono (by omega)))
    clear hb3
    go_wp2_with fail
    refine (Ints.copy _ l _ (HIN.out.below (B3.out.alloc (by omega) _))).mono ?_
    rintro e w4 ⟨g4, rfl, hr4, hb4⟩
    have hz4 := hb4.size
    simp only [World.size_alloc] at hz4
    have r0 : w4.cell? ⟨w3.heap.size, 0, none⟩ = some (.int .i64 r.1) := keepB hb4 (keepN rfl rfl)
    have r1 : w4.cell? ⟨w3.heap.size, 1, none⟩ = some (.int .i64 r.2.1) := keepB hb4 (keepN rfl rfl)
    have R4 := Lib.hid (hr4.ints (by have := HL.out; omega) (by obtain ⟨_, _, _, _, hbd, _⟩ := HIN.out; exact hbd))
    have B4 := Lib.hid ((B3.out.alloc (by omega) _).trans (hb4.mono (by simp <;> omega)))
    clear hb4 hr4
    go_wp2_with fail
    refine (HI.out _ _ R4.out).mono ?_
    rintro e w6 ⟨rfl, hb6⟩
    have hz6 := hb6.size
    have t0 := keepB hb6 r0
    have t1 := keepB hb6 r1
    have R6 := Lib.hid (R4.out.below hb6)
    have B6 := Lib.hid (B4.out.trans (hb6.mono (by omega)))
    have hw36 : w3.heap.size < w6.heap.size := by omega
    clear hb6 r0 r1
    go_wp2_with fail
    refine (Tab.same _ _ _).mono ?_
    rintro e w7 ⟨rfl, hb7⟩
    have hz7 := hb7.size
    simp only [World.size_alloc] at hz7
    have R7 := Lib.hid ((R6.out.below ((Below.refl _ _).alloc (Nat.le_refl _) _)).below hb7)
    have B7 := Lib.hid ((B6.out.alloc (by omega) _).trans (hb7.mono (by simp <;> omega)))
    clear hb7
    go_wp2_with fail
    refine (Ints.copy _ l _ (HIN.out.below B7.out)).mono ?_
    rintro e w8 ⟨g8, rfl, hr8, hb8⟩
    have hz8 := hb8.size
    have R8 := Lib.hid (R7.out.below hb8)
    have G8 := Lib.hid (hr8.ints (by have := HL.out; omega) (by obtain ⟨_, _, _, _, hbd, _⟩ := HIN.out; exact hbd))
    have B8 := Lib.hid (B7.out.trans (hb8.mono (by omega)))
    clear hb8 hr8
    go_wp2_with fail
    refine (Ints.same _ _ l _ R8.out G8.out).mono ?_
    rintro e w9 ⟨rfl, q9, rfl⟩
    go_wp2
    go_ret
    exact ⟨rfl, below_drewN B8.out q9⟩
  · have hgt : 1048576 < (len1 : Int) := by omega
    go_enter Try.func12, Try.ntmps12
    go_wp2
    go_ret
    exact ⟨rfl, Below.refl _ _⟩

set_option maxRecDepth 100000 in
theorem lifted (os : Os) (started : os.Started) (H : Type) (enc : TypeId × Value → H) :
    ReturnsInHanded {} Try.checked os 12 .any (Rows.fnExactTableOfPointsSpec.pre6 enc Try.prog Try.f12 Rows.fnExactTableOfPointsRow.domain false) (Rows.fnExactTableOfPointsSpec.post enc Try.prog Try.f12 false true false false) := by
  refine returnsInHanded_of_change (C := Try.checked) own started (by kernel_rfl) Try.func12
    (ChangeSpec.witness6 (enc := enc) (C := Try.checked) false ⟨#[], #[.int .i64 0, .slice none 0 0], []⟩ 8 (by kernel_rfl) (by kernel_rfl) (by kernel_rfl) (by kernel_rfl)) ?_
  intro W base args ds gs before hval0 hW hcnd _
  have hval : ∀ (j : Nat) t v, Try.f12.params[j]? = some t → args[j]? = some v → Value.okWide Try.prog W .any base t v := hval0
  have hW' := hW
  obtain ⟨p, q, hA0, hV, rfl, hfz, hnd⟩ := hW
  have hA : DataW.TrodAll enc Try.prog W 0 (fun _ => true) true Try.f12.params.toList args.toList ds p := hA0
  rw [Try.params12] at hA hval
  obtain ⟨v0, vs0, d0, ds0, p0, q0, hargs, rfl, rfl, h0, r0⟩ := trodAll_cons hA
  obtain ⟨v1, vs1, d1, ds1, p1, q1, rfl, rfl, rfl, h1, r1⟩ := trodAll_cons r0
  obtain ⟨rfl, rfl, rfl⟩ := trodAll_nil r1
  obtain rfl : args = #[v0, v1] := by cases args; simp_all
  obtain ⟨rfl, rfl⟩ := trodVars_none hV
  obtain ⟨a0, rfl, rfl, rfl, w0⟩ := open_int Try.underlying3 (hval 0 3 v0 rfl rfl) h0
  obtain ⟨a1, len1, cap1, rfl⟩ := okWide_slice Try.underlying36 (hval 1 36 v1 rfl rfl)
  have k1 := h1
  have lt1 : ∀ x ∈ p1, x.block < W.heap.size := by obtain ⟨m, hm⟩ := k1; exact DataW.trod_lt m _ _ _ hm
  obtain ⟨z1, w1⟩ : ∃ zs, IsRow .i64 W a1 len1 cap1 zs := by
    obtain ⟨fuel, hf⟩ := h1
    rcases open_ints Try.underlying36 Try.underlying3 (by kernel_rfl) hf with ⟨hcs, _⟩ | ⟨x, l, c, zs, hcs, _, hl, hm, hz, _, hcell, hwz⟩
    · simp [Value.cells] at hcs
      obtain ⟨rfl, rfl, rfl⟩ := hcs
      exact ⟨[], .inl ⟨rfl, rfl, rfl, rfl⟩⟩
    · simp [Value.cells] at hcs
      obtain ⟨rfl, rfl, rfl⟩ := hcs
      exact ⟨zs, .inr ⟨_, rfl, hl, hm, by simpa using hz, hcell, hwz⟩⟩
  clear hA0 hval0
  simp only [List.append_nil] at hW'
  refine (walk a0 a1 len1 cap1 z1 W w0 w1).mono fun e W' ⟨he, bel⟩ => ?_
  subst he
  exact ⟨_, rfl, _, _, _, [], _, [], hW', trodAll_mk1 (shut_bool Try.underlying4 _), (trodAll_cons_mk (shut_int Try.underlying3 w0) (trodAll_cons_mk (Below.trod laidOut (by kernel_rfl) (of_decide_eq_true (by kernel_rfl)) k1 bel lt1) trodAll_mk0)), rfl, bel.frame _, fun h => by cases h⟩

theorem proved : Rows.FnExactTableOfPointsSaid :=
  OpenClaim.holds_of_wide 12 Try.f12 rfl rfl rfl rfl rfl rfl rfl ⟨rfl, rfl, rfl, rfl, rfl⟩ rfl rfl rfl rfl rfl (by kernel_rfl) Try.func12 (by kernel_rfl)
    (of_decide_eq_true (by kernel_rfl)) (by unfold Func.isWrapper; first | (rw [if_pos (by decide +kernel)]; kernel_rfl) | (rw [if_neg (by decide +kernel)]; exact ⟨rfl, rfl⟩))
    (fun os started H enc _ => lifted os started H enc)
end Go.Proofs.Ytlmhdocfdpbhmaa.fnExactTableOfPoints
