/-
  For every table of two ints and every slice of ints, PlayAgainst of the program answers the same number as the model's, and writes into nothing that was there, the slice included. No condition of its own: the law itself asks nothing of slices longer than 1048576.
-/
import Derived.Test.YtdhdkonokbkdoaaRows
import Derived.WalkKit
import Derived.ProofKit
import Derived.OpenShut
import Derived.ShutString
import Derived.Carry
import Derived.Below
import Derived.Lib.SmallJoins
import Derived.Test.YtdhdkonokbkdoaaAdvP
import Derived.Test.YtdhdkonokbkdoaaRowB
namespace Go.Proofs.Ytdhdkonokbkdoaa.fnExactPlayAgainst
open Go.ChangeShapes Go.WideShapes Go.ChangeAt Go.RowKit
open Go.ChangeMaps (open_string shut_string)
open Go.Joins
set_option linter.unusedVariables false

theorem own : ownKnob Try.prog.godebug = none := by kernel_rfl
theorem laidOut : laidOutB Try.prog = true := by kernel_rfl

open Plain
/-- A slice of integers that came in: it is nil, or it leads to a row of 'cap' cells, the numbers 'zs', each fitting its kind. -/
def IsRow (k : IntKind) (w : World) (a : Option Addr) (len cap : Nat) (zs : List Int) : Prop :=
  (a = none ∧ len = 0 ∧ cap = 0 ∧ zs = []) ∨
  ∃ x, a = some x ∧ len ≤ cap ∧ cap ≤ maxLen ∧ zs.length = cap ∧ (∀ i, i < zs.length → w.cell? (x.add i) = some (.int k (zs.getD i 0))) ∧ ∀ n ∈ zs, (Lit.int k n).wf = true

theorem rowInts {w : World} {a : Option Addr} {len cap : Nat} {zs : List Int} (h : IsRow .i64 w a len cap zs) (hl : (len : Int) ≤ 1048576) :
    ∃ l : List Int, l.length = len ∧ IntsIn w (.slice a len cap) l := by
  rcases h with ⟨rfl, rfl, rfl, rfl⟩ | ⟨x, rfl, hlc, hm, hz, hcell, hwf⟩
  · exact ⟨[], rfl, none, 0, rfl, by decide, (fun x hx => absurd hx List.not_mem_nil), fun h => absurd h (Nat.lt_irrefl 0)⟩
  · have hlen : (zs.take len).length = len := by rw [List.length_take]; omega
    refine ⟨zs.take len, hlen, some x, cap, by rw [hlen], by omega, fun y hy => bounds64 (hwf y (List.mem_of_mem_take hy)), fun h0 => ?_⟩
    rw [hlen] at h0
    obtain ⟨ab, off, spot⟩ := x
    have hc := hcell 0 (by omega)
    have hspot : spot = none := by simpa [Addr.add] using World.cell?_spot hc
    subst hspot
    refine ⟨ab, off, rfl, World.block_lt_of_cell? w _ hc, fun j hj => ?_⟩
    rw [hlen] at hj
    have hcj := hcell j (by omega)
    rw [show (⟨ab, off, none⟩ : Addr).add j = ⟨ab, off + j, none⟩ by simp [Addr.add]] at hcj
    rw [hcj]
    congr 2
    simp [List.getD_eq_getElem?_getD, hj]

set_option maxRecDepth 100000 in
set_option maxHeartbeats 2000000 in
theorem walk (a0_0 a0_1 : Int) (a1 : Option Addr) (len1 cap1 : Nat) (z1 : List Int) (W : World) (w0_0 : (Lit.int .i64 a0_0).wf = true) (w0_1 : (Lit.int .i64 a0_1).wf = true) (w1 : IsRow .i64 W a1 len1 cap1 z1) :
    Calls Try.prog 5 #[.agg #[.int .i64 a0_0, .int .i64 a0_1], .slice a1 len1 cap1] W fun e w' => e = .returned (.bool true) ∧ Below W.heap.size W w' := by
  by_cases hlt : (len1 : Int) ≤ 1048576
  · obtain ⟨l, hl, hin⟩ := rowInts w1 hlt
    have hb := bounds64 w0_1
    have HI := Lib.hid (fun ad cl cap => Pla.impl a0_0 a0_1 ad cl cap l hb)
    have HM := Lib.hid (fun ad cl cap => Pla.model a0_0 a0_1 ad cl cap l)
    have HIN := Lib.hid hin
    have HL := Lib.hid hl
    clear hb w0_0 w0_1 w1 hin hl
    generalize plaT a0_0 a0_1 l = r at HI HM
    go_enter Try.func5, Try.ntmps5
    go_wp2_with fail
    refine (Tab.copy _ _ _).mono ?_
    rintro e w1 ⟨rfl, hb1⟩
    have hz1 := hb1.size
    simp only [World.size_alloc] at hz1
    have k0 : w1.cell? ⟨W.heap.size, 0, none⟩ = some (.int .i64 a0_0) := keepB hb1 (keepN rfl rfl)
    have k1 : w1.cell? ⟨W.heap.size, 1, none⟩ = some (.int .i64 a0_1) := keepB hb1 (keepN rfl rfl)
    have B1 := Lib.hid (((Below.refl W.heap.size W).alloc (Nat.le_refl _) _).trans (hb1.mono (by simp)))
    clear hb1
    go_wp2_with fail
    refine (Ints.copy _ l _ (HIN.out.below B1.out)).mono ?_
    rintro e w2 ⟨g2, rfl, hr2, hb2⟩
    have hz2 := hb2.size
    have m0 := keepB hb2 k0
    have m1 := keepB hb2 k1
    have R2 := Lib.hid (hr2.ints (by have := HL.out; omega) (by obtain ⟨_, _, _, _, hbd, _⟩ := HIN.out; exact hbd))
    have B2 := Lib.hid (B1.out.trans (hb2.mono (by omega)))
    clear hb2 hr2 k0 k1
    go_wp2_with fail
    refine (HM.out _ _ _ _ R2.out).mono ?_
    rintro e w3 ⟨rfl, hb3⟩
    have hz3 := hb3.size
    have n0 := keepB hb3 m0
    have n1 := keepB hb3 m1
    have B3 := Lib.hid (B2.out.trans (hb3.mono (by omega)))
    clear hb3 m0 m1
    go_wp2_with fail
    refine (Ints.copy _ l _ (HIN.out.below B3.out)).mono ?_
    rintro e w4 ⟨g4, rfl, hr4, hb4⟩
    have hz4 := hb4.size
    have p0 := keepB hb4 n0
    have p1 := keepB hb4 n1
    have R4 := Lib.hid (hr4.ints (by have := HL.out; omega) (by obtain ⟨_, _, _, _, hbd, _⟩ := HIN.out; exact hbd))
    have B4 := Lib.hid (B3.out.trans (hb4.mono (by omega)))
    clear hb4 hr4 n0 n1
    go_wp2_with fail
    refine (Tab.copy _ _ _).mono ?_
    rintro e w5 ⟨rfl, hb5⟩
    have hz5 := hb5.size
    have R5 := Lib.hid (R4.out.below hb5)
    have B5 := Lib.hid (B4.out.trans (hb5.mono (by omega)))
    clear hb5 p0 p1
    go_wp2_with fail
    refine (HI.out _ _ _ _ R5.out).mono ?_
    rintro e w6 ⟨rfl, hb6⟩
    have hz6 := hb6.size
    have R6 := Lib.hid (R5.out.below hb6)
    have B6 := Lib.hid (B5.out.trans (hb6.mono (by omega)))
    clear hb6
    go_wp2_with fail
    refine (Ints.copy _ l _ (HIN.out.below B6.out)).mono ?_
    rintro e w8 ⟨g8, rfl, hr8, hb8⟩
    have hz8 := hb8.size
    have R8 := Lib.hid (R6.out.below hb8)
    have G8 := Lib.hid (hr8.ints (by have := HL.out; omega) (by obtain ⟨_, _, _, _, hbd, _⟩ := HIN.out; exact hbd))
    have B8 := Lib.hid (B6.out.trans (hb8.mono (by omega)))
    clear hb8 hr8
    go_wp2_with fail
    refine (Ints.same _ _ l _ R8.out G8.out).mono ?_
    rintro e w9 ⟨rfl, q9, rfl⟩
    go_wp2
    go_ret
    exact ⟨rfl, below_drewN B8.out q9⟩
  · have hgt : 1048576 < (len1 : Int) := by omega
    go_enter Try.func5, Try.ntmps5
    go_wp2
    go_ret
    exact ⟨rfl, (Below.refl _ _).alloc (Nat.le_refl _) _⟩

set_option maxRecDepth 100000 in
theorem lifted (os : Os) (started : os.Started) (H : Type) (enc : TypeId × Value → H) :
    ReturnsInHanded {} Try.checked os 5 .any (Rows.fnExactPlayAgainstSpec.pre6 enc Try.prog Try.f5 Rows.fnExactPlayAgainstRow.domain false) (Rows.fnExactPlayAgainstSpec.post enc Try.prog Try.f5 false true false false) := by
  refine returnsInHanded_of_change (C := Try.checked) own started (by kernel_rfl) Try.func5
    (ChangeSpec.witness6 (enc := enc) (C := Try.checked) false ⟨#[], #[.agg #[.int .i64 0, .int .i64 0], .slice none 0 0], []⟩ 8 (by kernel_rfl) (by kernel_rfl) (by kernel_rfl) (by kernel_rfl)) ?_
  intro W base args ds gs before hval0 hW hcnd _
  have hval : ∀ (j : Nat) t v, Try.f5.params[j]? = some t → args[j]? = some v → Value.okWide Try.prog W .any base t v := hval0
  have hW' := hW
  obtain ⟨p, q, hA0, hV, rfl, hfz, hnd⟩ := hW
  have hA : DataW.TrodAll enc Try.prog W 0 (fun _ => true) true Try.f5.params.toList args.toList ds p := hA0
  rw [Try.params5] at hA hval
  obtain ⟨v0, vs0, d0, ds0, p0, q0, hargs, rfl, rfl, h0, r0⟩ := trodAll_cons hA
  obtain ⟨v1, vs1, d1, ds1, p1, q1, rfl, rfl, rfl, h1, r1⟩ := trodAll_cons r0
  obtain ⟨rfl, rfl, rfl⟩ := trodAll_nil r1
  obtain rfl : args = #[v0, v1] := by cases args; simp_all
  obtain ⟨rfl, rfl⟩ := trodVars_none hV
  have k0 := h0
  have lt0 : ∀ x ∈ p0, x.block < W.heap.size := by obtain ⟨m, hm⟩ := k0; exact DataW.trod_lt m _ _ _ hm
  obtain ⟨c0_0, c0_1, y0_0, y0_1, m0, rfl, hd0, hp0, hy0_0, hy0_1⟩ := open_agg2 Try.underlying39 (by kernel_rfl) (by kernel_rfl) (hval 0 39 v0 rfl rfl) h0
  obtain ⟨a0_0, e0_0, he0_0, w0_0⟩ := DataW.trod_int Try.underlying3 hy0_0
  simp at e0_0
  subst e0_0
  obtain ⟨a0_1, e0_1, he0_1, w0_1⟩ := DataW.trod_int Try.underlying3 hy0_1
  simp at e0_1
  subst e0_1
  obtain ⟨a1, len1, cap1, rfl⟩ := okWide_slice Try.underlying26 (hval 1 26 v1 rfl rfl)
  have k1 := h1
  have lt1 : ∀ x ∈ p1, x.block < W.heap.size := by obtain ⟨m, hm⟩ := k1; exact DataW.trod_lt m _ _ _ hm
  obtain ⟨z1, w1⟩ : ∃ zs, IsRow .i64 W a1 len1 cap1 zs := by
    obtain ⟨fuel, hf⟩ := h1
    rcases open_ints Try.underlying26 Try.underlying3 (by kernel_rfl) hf with ⟨hcs, _⟩ | ⟨x, l, c, zs, hcs, _, hl, hm, hz, _, hcell, hwz⟩
    · simp [Value.cells] at hcs
      obtain ⟨rfl, rfl, rfl⟩ := hcs
      exact ⟨[], .inl ⟨rfl, rfl, rfl, rfl⟩⟩
    · simp [Value.cells] at hcs
      obtain ⟨rfl, rfl, rfl⟩ := hcs
      exact ⟨zs, .inr ⟨_, rfl, hl, hm, by simpa using hz, hcell, hwz⟩⟩
  clear hA0 hval0
  simp only [List.append_nil] at hW'
  refine (walk a0_0 a0_1 a1 len1 cap1 z1 W w0_0 w0_1 w1).mono fun e W' ⟨he, bel⟩ => ?_
  subst he
  exact ⟨_, rfl, _, _, _, [], _, [], hW', trodAll_mk1 (shut_bool Try.underlying4 _), (trodAll_cons_mk (Below.trod laidOut (by kernel_rfl) (of_decide_eq_true (by kernel_rfl)) k0 bel lt0) (trodAll_cons_mk (Below.trod laidOut (by kernel_rfl) (of_decide_eq_true (by kernel_rfl)) k1 bel lt1) trodAll_mk0)), rfl, bel.frame _, fun h => by cases h⟩

theorem proved : Rows.FnExactPlayAgainstSaid :=
  OpenClaim.holds_of_wide 5 Try.f5 rfl rfl rfl rfl rfl rfl rfl ⟨rfl, rfl, rfl, rfl, rfl⟩ rfl rfl rfl rfl rfl (by kernel_rfl) Try.func5 (by kernel_rfl)
    (of_decide_eq_true (by kernel_rfl)) (by unfold Func.isWrapper; first | (rw [if_pos (by decide +kernel)]; kernel_rfl) | (rw [if_neg (by decide +kernel)]; exact ⟨rfl, rfl⟩))
    (fun os started H enc _ => lifted os started H enc)
end Go.Proofs.Ytdhdkonokbkdoaa.fnExactPlayAgainst
