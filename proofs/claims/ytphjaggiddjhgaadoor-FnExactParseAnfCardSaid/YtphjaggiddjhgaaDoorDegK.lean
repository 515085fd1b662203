/-
  Chapter 11, the program: addParts.
  Chapter 11, the program: RealCoefficients.
  Chapter 11, the program: AnfOf; degreeOf; DegreeMod2, RealDegree.
-/
import Derived.Test.YtphjaggiddjhgaaDoorDegP
import Derived.Laws.DeepStrings4
import Derived.Test.YtphjaggiddjhgaaDoorResL
import Derived.Test.YtphjaggiddjhgaaDoorSetS

namespace Go.Proofs.YtphjaggiddjhgaaDoor
open Go.RowKit Plain
set_option linter.unusedVariables false

theorem ext_getD {l m : List Int} (hn : l.length = m.length) (h : ∀ j, j < l.length → l.getD j 0 = m.getD j 0) : l = m := by
  apply List.ext_getElem hn
  intro j h1 h2
  have := h j h1
  rwa [List.getD_eq_getElem?_getD, List.getD_eq_getElem?_getD, List.getElem?_eq_getElem h1, List.getElem?_eq_getElem h2] at this

/-- The list with h's numbers from the place o on, N of them. -/
def Plain.putL (h : Nat → Int) (o N : Nat) (l : List Int) : List Int := (List.range l.length).map fun j => if o ≤ j ∧ j < o + N then h (j - o) else l.getD j 0
theorem putL_len (h : Nat → Int) (o N : Nat) (l : List Int) : (putL h o N l).length = l.length := by simp [putL]
theorem putL_at (h : Nat → Int) (o N : Nat) (l : List Int) {j : Nat} (hj : j < l.length) : (putL h o N l).getD j 0 = if o ≤ j ∧ j < o + N then h (j - o) else l.getD j 0 := by
  simp [putL, List.getD_eq_getElem?_getD, hj]
theorem putL_in (h : Nat → Int) (o N : Nat) (l : List Int) {x : Nat} (hx : x < N) (hj : o + x < l.length) : (putL h o N l).getD (o + x) 0 = h x := by
  rw [putL_at h o N l hj, if_pos ⟨by omega, by omega⟩, Nat.add_sub_cancel_left]
theorem putL_out (h : Nat → Int) (o N : Nat) (l : List Int) {j : Nat} (hj : j < l.length) (hn : ¬ (o ≤ j ∧ j < o + N)) : (putL h o N l).getD j 0 = l.getD j 0 := by
  rw [putL_at h o N l hj, if_neg hn]
theorem putL_none (h : Nat → Int) (o : Nat) (l : List Int) : putL h o 0 l = l := by
  refine ext_getD (putL_len ..) fun j hj => ?_
  rw [putL_len] at hj
  rw [putL_out _ _ _ _ hj (by omega)]
theorem getD_set (l : List Int) (i j : Nat) (v : Int) (h : j < l.length) : (l.set i v).getD j 0 = if i = j then v else l.getD j 0 := by
  rw [List.getD_eq_getElem?_getD, List.getElem?_set]
  by_cases e : i = j
  · subst e; simp [h]
  · simp [e]
theorem putL_set (h : Nat → Int) (o N : Nat) (l : List Int) (hn : o + N < l.length) : (putL h o N l).set (o + N) (h N) = putL h o (N + 1) l := by
  refine ext_getD (by rw [List.length_set, putL_len, putL_len]) fun j hj => ?_
  rw [List.length_set, putL_len] at hj
  rw [getD_set _ _ _ _ (by rw [putL_len]; exact hj), putL_at _ _ _ _ hj, putL_at _ _ _ _ hj]
  by_cases e : o + N = j
  · subst e; rw [if_pos rfl, if_pos ⟨by omega, by omega⟩, Nat.add_sub_cancel_left]
  · rw [if_neg e]
    by_cases e2 : o ≤ j ∧ j < o + N
    · rw [if_pos e2, if_pos ⟨by omega, by omega⟩]
    · rw [if_neg e2, if_neg (by omega)]
/-- The list whose numbers from the place o on are those with the parts' added. -/
def Plain.segL (f : Int) (k o : Nat) (l : List Int) : List Int := putL (parF f k fun x => l.getD (o + x) 0) o (2 ^ k) l
theorem segL_len (f : Int) (k o : Nat) (l : List Int) : (segL f k o l).length = l.length := putL_len ..
theorem segL_zero (f : Int) (o : Nat) (l : List Int) : segL f 0 o l = l := by
  refine ext_getD (segL_len ..) fun j hj => ?_
  rw [segL_len] at hj
  unfold segL
  rw [putL_at _ _ _ _ hj]
  split
  · rename_i h
    show l.getD (o + (j - o)) 0 = _
    rw [show o + (j - o) = j by omega]
  · rfl
/-- What is added to the upper half. -/
def Plain.addH (f : Int) (o H : Nat) (l : List Int) (x : Nat) : Int := l.getD (o + H + x) 0 + f * l.getD (o + x) 0
theorem segL_succ (f : Int) (k o : Nat) (l : List Int) (hl : o + 2 ^ (k + 1) ≤ l.length) :
    segL f k (o + 2 ^ k) (segL f k o (putL (addH f o (2 ^ k) l) (o + 2 ^ k) (2 ^ k) l)) = segL f (k + 1) o l := by
  have h2 : 2 ^ (k + 1) = 2 ^ k * 2 := Nat.pow_succ 2 k
  refine ext_getD (by rw [segL_len, segL_len, putL_len, segL_len]) fun j hj => ?_
  rw [segL_len, segL_len, putL_len] at hj
  have e1 : ∀ x, x < 2 ^ k → (putL (addH f o (2 ^ k) l) (o + 2 ^ k) (2 ^ k) l).getD (o + x) 0 = l.getD (o + x) 0 := fun x hx => putL_out _ _ _ _ (by omega) (by omega)
  have e2 : ∀ x, x < 2 ^ k → (segL f k o (putL (addH f o (2 ^ k) l) (o + 2 ^ k) (2 ^ k) l)).getD (o + 2 ^ k + x) 0 = l.getD (o + (2 ^ k + x)) 0 + f * l.getD (o + x) 0 := fun x hx => by
    show (putL _ _ _ _).getD _ 0 = _
    rw [putL_out _ _ _ _ (by rw [putL_len]; omega) (by omega), putL_in _ _ _ _ hx (by omega)]
    unfold addH
    rw [Nat.add_assoc]
  by_cases ha : o ≤ j ∧ j < o + 2 ^ k
  · obtain ⟨z, rfl⟩ : ∃ z, j = o + z := ⟨j - o, by omega⟩
    show (putL _ _ _ _).getD _ 0 = (putL _ _ _ _).getD _ 0
    rw [putL_out _ _ _ _ (by rw [segL_len, putL_len]; exact hj) (by omega)]
    show (putL _ _ _ _).getD _ 0 = _
    rw [putL_in _ _ _ _ (by omega) (by rw [putL_len]; exact hj), putL_in _ _ _ _ (by omega) hj, parF_lo (by omega)]
    exact parF_congr f k _ _ e1 z (by omega)
  · by_cases hb : o + 2 ^ k ≤ j ∧ j < o + 2 ^ k + 2 ^ k
    · obtain ⟨z, rfl⟩ : ∃ z, j = o + 2 ^ k + z := ⟨j - (o + 2 ^ k), by omega⟩
      show (putL _ _ _ _).getD _ 0 = (putL _ _ _ _).getD _ 0
      rw [putL_in _ _ _ _ (by omega) (by rw [segL_len, putL_len]; exact hj)]
      have hj2 : o + (2 ^ k + z) < l.length := by omega
      rw [show o + 2 ^ k + z = o + (2 ^ k + z) by omega, putL_in _ _ _ _ (by omega) hj2, parF_hi]
      exact parF_congr f k _ _ e2 z (by omega)
    · show (putL _ _ _ _).getD _ 0 = (putL _ _ _ _).getD _ 0
      rw [putL_out _ _ _ _ (by rw [segL_len, putL_len]; exact hj) (by omega)]
      show (putL _ _ _ _).getD _ 0 = _
      rw [putL_out _ _ _ _ (by rw [putL_len]; exact hj) (by omega), putL_out _ _ _ _ hj (by omega), putL_out _ _ _ _ hj (by omega)]

/-! The walk. -/
theorem slice_low (b off len cap h : Nat) (hh : 1 ≤ h) (hc : h ≤ cap) (w' : World) :
    (Instr.slice 28 (.slice (some ⟨b, off, none⟩) len cap) none (some (.int .i64 (h : Int))) (some (.int .i64 (h : Int)))).run Tryd.prog w' = .ok (.slice (some ⟨b, off, none⟩) h h) w' := by
  rw [run_slice_hm (P := Tryd.prog) w' 28 (some ⟨b, off, none⟩) len cap (by kernel_rfl) .i64 .i64 (h : Int) (h : Int) (by omega) (by omega) (by omega)]
  have hs : (sizeOf (Tryd.prog.elem 28)).run Tryd.prog w' = .ok 1 w' := by kernel_rfl
  rw [hs]
  have hadd : (⟨b, off, none⟩ : Addr).add (0 * 1) = ⟨b, off, none⟩ := by unfold Addr.add; split <;> simp_all
  rw [Nat.zero_mul] at hadd
  simp [Result.andThen, sliced, hadd]
theorem slice_high (b off len cap h : Nat) (hh : h < len) (hc : len ≤ cap) (w' : World) :
    (Instr.slice 28 (.slice (some ⟨b, off, none⟩) len cap) (some (.int .i64 (h : Int))) none none).run Tryd.prog w' = .ok (.slice (some ⟨b, off + h, none⟩) (len - h) (cap - h)) w' := by
  have hadd : (⟨b, off, none⟩ : Addr).add (h * 1) = ⟨b, off + h, none⟩ := by unfold Addr.add; split <;> simp_all
  rw [run_slice_l (P := Tryd.prog) w' 28 (some ⟨b, off, none⟩) len cap (by kernel_rfl) .i64 (h : Int) (by omega) (by omega)]
  have hs : (sizeOf (Tryd.prog.elem 28)).run Tryd.prog w' = .ok 1 w' := by kernel_rfl
  rw [hs]
  rw [Nat.mul_one] at hadd
  simp [Result.andThen, sliced, hadd, (show ¬ cap = h by omega)]

theorem grownStep {w w1 w2 : World} {r : Option Nat} (h1 : w.grownBy w1 r) (h2 : w1.grownBy w2 r) : w.grownBy w2 r :=
  ⟨h2.os.trans h1.os, h2.tape.trans h1.tape, h2.output.trans h1.output, Nat.le_trans h1.size h2.size, fun i hi hne => (h2.block i (Nat.lt_of_lt_of_le hi h1.size) hne).trans (h1.block i hi hne)⟩
theorem grownRefl (w : World) (r : Option Nat) : w.grownBy w r := ⟨rfl, rfl, rfl, Nat.le_refl _, fun _ _ _ => rfl⟩

theorem RowAt.store {w : World} {B g cap : Nat} {l : List Int} (h : RowAt w B g cap l) (j : Nat) (x : Int) :
    RowAt (w.setCell ⟨g, j, none⟩ (.int .i64 x)) B g cap (l.set j x) ∧ w.grownBy (w.setCell ⟨g, j, none⟩ (.int .i64 x)) (some g) := by
  have h2 := h.1.store rfl j x
  exact ⟨⟨by rw [List.length_set]; exact h2.1, by rw [List.length_set]; exact h.2⟩, h2.2⟩
theorem RowAt.free {w : World} {B g cap : Nat} {l : List Int} (h : RowAt w B g cap l) (j : Nat) : w.frozen? ⟨g, j, none⟩ = false := h.1.free j
theorem RowAt.drewN {w : World} {B g cap : Nat} {l : List Int} (h : RowAt w B g cap l) (n : Nat) : RowAt (w.drewN n) B g cap l := h.below ⟨rfl, rfl, rfl, Nat.le_refl _, fun _ _ => rfl⟩

/-- What addParts leaves. -/
def PartsOut (f : Int) (k o : Nat) (l : List Int) (B g cap : Nat) (w : World) (e : Ending) (w' : World) : Prop :=
  e = .returned (.tuple #[]) ∧ RowAt w' B g cap (segL f k o l) ∧ w.grownBy w' (some g)

theorem Parts.one (f : Int) (o : Nat) (l : List Int) (B g cap c : Nat) (w : World) (hr : RowAt w B g cap l) :
    Calls Tryd.prog 19 #[.slice (some ⟨g, o, none⟩) 1 c, .int .i64 f] w (PartsOut f 0 o l B g cap w) := by
  have HR := Lib.hid hr
  clear hr
  go_enter Tryd.func19, Tryd.ntmps19
  go_wp2
  exact bodyPost_ret (v := .tuple #[]) (by simp [results, Tryd.results19, go_sem]) rfl ⟨rfl, by rw [segL_zero]; exact HR.out, grownRefl _ _⟩

set_option maxRecDepth 100000 in
set_option maxHeartbeats 1000000 in
theorem Parts.step (f : Int) (hf : f = 1 ∨ f = -1) (k : Nat) (o : Nat) (l : List Int) (b : Int) (B g cap c : Nat) (w : World) (hk : k < 5) (hl : o + 2 ^ (k + 1) ≤ l.length) (hl32 : l.length ≤ 32) (hc : 2 ^ (k + 1) ≤ c)
    (hb0 : 0 ≤ b) (hbk : b * 2 ^ (k + 1) ≤ 1000000) (hx : ∀ x, x < 2 ^ (k + 1) → -b ≤ l.getD (o + x) 0 ∧ l.getD (o + x) 0 ≤ b) (hr : RowAt w B g cap l)
    (ih : ∀ (o' : Nat) (l' : List Int) (c' : Nat) (w' : World), o' + 2 ^ k ≤ l'.length → l'.length ≤ 32 → 2 ^ k ≤ c' → (∀ x, x < 2 ^ k → -(2 * b) ≤ l'.getD (o' + x) 0 ∧ l'.getD (o' + x) 0 ≤ 2 * b) → RowAt w' B g cap l' →
      Calls Tryd.prog 19 #[.slice (some ⟨g, o', none⟩) (2 ^ k) c', .int .i64 f] w' (PartsOut f k o' l' B g cap w')) :
    Calls Tryd.prog 19 #[.slice (some ⟨g, o, none⟩) (2 ^ (k + 1)) c, .int .i64 f] w (PartsOut f (k + 1) o l B g cap w) := by
  have h2 : 2 ^ (k + 1) = 2 ^ k * 2 := Nat.pow_succ 2 k
  have hH1 : 1 ≤ 2 ^ k := Nat.one_le_two_pow
  have hH : 2 ^ k ≤ 16 := Nat.pow_le_pow_right (by decide) (show k ≤ 4 by omega)
  have hbb : b ≤ 1000000 := by
    have : b * 1 ≤ b * 2 ^ (k + 1) := Int.mul_le_mul_of_nonneg_left (by have := Int.natCast_pow 2 (k + 1); have h3 : ((2 ^ (k + 1) : Nat) : Int) = (2 : Int) ^ (k + 1) := this; rw [← h3]; omega) hb0
    omega
  have HS := Lib.hid (segL_succ f k o l hl)
  have HIH := Lib.hid ih
  have HX := Lib.hid hx
  have HR := Lib.hid hr
  have HF := Lib.hid hf
  clear ih hx hr hf hbk
  unfold PartsOut
  rw [← HS.out]
  generalize hN : 2 ^ (k + 1) = N at *
  generalize hHe : 2 ^ k = H at *
  have HN := Lib.hid hN
  have HHe := Lib.hid hHe
  clear hN hHe
  have hdiv : (N : Int) / 2 = (H : Int) := by omega
  have hN2 : 2 ≤ (N : Int) := by omega
  have hN32 : (N : Int) ≤ 32 := by omega
  have hNH : N - H = H := by omega
  have HLO := Lib.hid (fun w' => slice_low g o N c H hH1 (by omega) w')
  have HHI := Lib.hid (fun w' => slice_high g o N c H (by omega) hc w')
  have hlo := HLO.out
  have hhi := HHI.out
  rw [hNH] at hhi
  have HL : Hid (o + N ≤ l.length) := Lib.hid hl
  have HN2 := Lib.hid h2
  clear hNH h2 hl
  go_enter Tryd.func19, Tryd.ntmps19
  go_wp2_with fail
  go_quiet (fail)
  go_wp2_with fail
  go_loopw [24] (fun i wr => ∃ j : Nat, i = .int .i64 (j : Int) ∧ j ≤ H ∧ RowAt wr B g cap (putL (addH f o H l) (o + H) j l) ∧ w.grownBy wr (some g)) (fun i _ => H - (intOf i).toNat)
  case atStart => exact ⟨0, rfl, by omega, by rw [putL_none]; exact HR.out.drewN _, ⟨rfl, rfl, rfl, Nat.le_refl _, fun _ _ _ => rfl⟩⟩
  case round =>
    obtain ⟨j, rfl, hj, hrow, hgr⟩ := hrel
    have HG := Lib.hid hgr
    clear hgr
    by_cases hlt : j < H
    · have hoj : o + j < l.length := by have := HL.out; have := HN2.out; omega
      have hohj : o + H + j < l.length := by have := HL.out; have := HN2.out; omega
      have c1 := hrow.cell (o + j) (by rw [putL_len]; exact hoj)
      have c2 := hrow.cell (o + H + j) (by rw [putL_len]; exact hohj)
      rw [putL_out _ _ _ _ hoj (by omega)] at c1
      rw [putL_out _ _ _ _ hohj (by omega)] at c2
      have hfree := hrow.free (o + H + j)
      have b1 := HX.out j (by have := HN2.out; omega)
      have b2 := HX.out (H + j) (by have := HN2.out; omega)
      rw [← Nat.add_assoc] at b2
      have hst := hrow.store (o + H + j) (addH f o H l j)
      rw [putL_set _ _ _ _ hohj] at hst
      unfold addH at hst
      generalize hx1 : l.getD (o + j) 0 = x at *
      generalize hy1 : l.getD (o + H + j) 0 = y at *
      have hfx : -b ≤ f * x ∧ f * x ≤ b := by
        rcases HF.out with rfl | rfl
        · rw [Int.one_mul]; exact b1
        · rw [Int.neg_mul, Int.one_mul]; omega
      have HST := Lib.hid hst
      have hjz : (j : Int) < (H : Int) := by omega
      clear hx1 hy1 hst hrow
      go_wp2_with fail
      go_roundw
      case rel => exact ⟨j + 1, by go_num, by omega, HST.out.1, grownStep HG.out HST.out.2⟩
      case measure => simp [intOf] <;> omega
    · obtain rfl : j = H := by omega
      have hll : o + (j + j) ≤ l.length := by have := HL.out; have := HN2.out; omega
      have B1 : ∀ x, x < j → -(2 * b) ≤ (putL (addH f o j l) (o + j) j l).getD (o + x) 0 ∧ (putL (addH f o j l) (o + j) j l).getD (o + x) 0 ≤ 2 * b := fun x hx => by
        rw [putL_out _ _ _ _ (by omega) (by omega)]
        have := HX.out x (by have := HN2.out; omega)
        omega
      have B2 : ∀ x, x < j → -(2 * b) ≤ (segL f k o (putL (addH f o j l) (o + j) j l)).getD (o + j + x) 0 ∧ (segL f k o (putL (addH f o j l) (o + j) j l)).getD (o + j + x) 0 ≤ 2 * b := fun x hx => by
        show -(2 * b) ≤ (putL _ _ _ _).getD _ 0 ∧ (putL _ _ _ _).getD _ 0 ≤ 2 * b
        rw [putL_out _ _ _ _ (by rw [putL_len]; omega) (by rw [HHe.out]; omega), putL_in _ _ _ _ hx (by omega)]
        have b1 := HX.out x (by have := HN2.out; omega)
        have b2 := HX.out (j + x) (by have := HN2.out; omega)
        rw [← Nat.add_assoc] at b2
        unfold addH
        rcases HF.out with rfl | rfl
        · rw [Int.one_mul]; omega
        · rw [Int.neg_mul, Int.one_mul]; omega
      have C1 := Lib.hid (HIH.out o _ j wr (by rw [putL_len]; omega) (by rw [putL_len]; exact hl32) (Nat.le_refl _) B1 hrow)
      have C2 := Lib.hid (fun w' h => HIH.out (o + j) _ (c - j) w' (by rw [segL_len, putL_len]; omega) (by rw [segL_len, putL_len]; exact hl32) (by have := HN2.out; omega) B2 h)
      clear B1 B2 hrow hll
      go_wp2_with fail
      refine C1.out.mono ?_
      rintro e w1 ⟨rfl, hr1, hg1⟩
      have HR1 := Lib.hid hr1
      have HG1 := Lib.hid (grownStep HG.out hg1)
      clear hr1 hg1
      go_wp2_with fail
      refine (C2.out _ HR1.out).mono ?_
      rintro e w2 ⟨rfl, hr2, hg2⟩
      have HR2 := Lib.hid hr2
      have HG2 := Lib.hid (grownStep HG1.out hg2)
      clear hr2 hg2
      go_wp2_with fail
      exact bodyPost_end (v := .tuple #[]) (by simp [results, Tryd.results19, go_sem]) rfl ⟨rfl, HR2.out, HG2.out⟩

/-- addParts. -/
theorem Parts.any (f : Int) (hf : f = 1 ∨ f = -1) (k : Nat) : k ≤ 5 → ∀ (o : Nat) (l : List Int) (b : Int) (B g cap c : Nat) (w : World), o + 2 ^ k ≤ l.length → l.length ≤ 32 → 2 ^ k ≤ c → 0 ≤ b → b * 2 ^ k ≤ 1000000 →
    (∀ x, x < 2 ^ k → -b ≤ l.getD (o + x) 0 ∧ l.getD (o + x) 0 ≤ b) → RowAt w B g cap l →
    Calls Tryd.prog 19 #[.slice (some ⟨g, o, none⟩) (2 ^ k) c, .int .i64 f] w (PartsOut f k o l B g cap w) := by
  induction k with
  | zero => intro _ o l b B g cap c w _ _ _ _ _ _ hr; exact Parts.one f o l B g cap c w hr
  | succ k ih =>
    intro hk o l b B g cap c w h1 h2 h3 h4 h5 h6 h7
    refine Parts.step f hf k o l b B g cap c w (by omega) h1 h2 h3 h4 h5 h6 h7 fun o' l' c' w' a1 a2 a3 a4 a5 => ?_
    refine ih (by omega) o' l' (2 * b) B g cap c' w' a1 a2 a3 (by omega) ?_ a4 a5
    have e : 2 * b * 2 ^ k = b * 2 ^ (k + 1) := by rw [Int.pow_succ, Int.mul_comm 2 b, Int.mul_assoc, Int.mul_comm 2 (2 ^ k)]
    rw [e]; exact h5

end Go.Proofs.YtphjaggiddjhgaaDoor

namespace Go.Proofs.YtphjaggiddjhgaaDoor
open Go.RowKit Plain
set_option linter.unusedVariables false

/-- The coefficients of the first k sets. -/
def Plain.reL (w k : Nat) : List Int := (List.range k).map (reZ w)
theorem reL_len (w k : Nat) : (reL w k).length = k := by simp [reL]
theorem reL_succ (w k : Nat) : reL w (k + 1) = reL w k ++ [reZ w k] := by simp [reL, List.range_succ]
theorem reL_at {w k j : Nat} (h : j < k) : (reL w k).getD j 0 = reZ w j := by simp [reL, List.getD_eq_getElem?_getD, h]
theorem reL_bound {n w : Nat} (hn : n ≤ 5) : ∀ x ∈ reL w (2 ^ n), -32 ≤ x ∧ x ≤ 32 := by
  intro x hx
  unfold reL at hx
  obtain ⟨m, hm, rfl⟩ := List.mem_map.1 hx
  exact reZ_bound hn (List.mem_range.1 hm)
def Plain.recT (n a : Int) : List Int := if isT n a = true then reL a.toNat (2 ^ n.toNat) else []
theorem recT_yes {n a : Nat} (h : isT n a = true) : recT n a = reL a (2 ^ n) := if_pos h
theorem recT_no {n a : Int} (h : isT n a = false) : recT n a = [] := if_neg (by rw [h]; decide)
theorem seg_vals {n w : Nat} (hn : n ≤ 5) : segL (-1) n 0 (putL (valZ w) 0 (2 ^ n) (List.replicate (2 ^ n) 0)) = reL w (2 ^ n) := by
  refine ext_getD (by rw [segL_len, putL_len, reL_len, List.length_replicate]) fun j hj => ?_
  rw [segL_len, putL_len, List.length_replicate] at hj
  have e := putL_in (parF (-1) n fun x => (putL (valZ w) 0 (2 ^ n) (List.replicate (2 ^ n) 0)).getD (0 + x) 0) 0 (2 ^ n) (putL (valZ w) 0 (2 ^ n) (List.replicate (2 ^ n) 0)) hj (by rw [putL_len, List.length_replicate]; omega)
  rw [Nat.zero_add] at e
  unfold segL
  rw [e, reL_at hj, ← reZ_par hn hj]
  refine parF_congr _ n _ _ (fun x hx => ?_) j hj
  exact putL_in _ _ _ _ hx (by rw [List.length_replicate]; omega)
theorem vals_bound {n w N : Nat} : ∀ x, x < N → -1 ≤ (putL (valZ w) 0 N (List.replicate N 0)).getD (0 + x) 0 ∧ (putL (valZ w) 0 N (List.replicate N 0)).getD (0 + x) 0 ≤ 1 := by
  intro x hx
  rw [putL_in _ _ _ _ hx (by rw [List.length_replicate]; omega)]
  have := bitN_lt w x
  unfold valZ
  omega

theorem Tab.countN (n N : Nat) (hn : n ≤ 5) (hN : 2 ^ n = N) (w : World) :
    Calls Tryd.prog 32 #[.int .i64 n] w fun e w' => e = .returned (.int .i64 (N : Int)) ∧ w = w' :=
  (Tab.count n hn w).mono fun e w' ⟨h1, h2⟩ => ⟨by rw [h1, hN], h2⟩

theorem nil_row (w : World) (B : Nat) : IntRow w B (.slice none 0 0) [] := ⟨by simp [intsV], .inl ⟨rfl, rfl⟩⟩

theorem Rec.impl_no (n a : Int) (hb : -9223372036854775808 ≤ a ∧ a ≤ 9223372036854775807) (ht : isT n a = false) (w : World) :
    Calls Tryd.prog 39 #[.agg #[.int .i64 n, .int .i64 a]] w (RowOut (recT n a) w) := by
  rw [recT_no ht]
  unfold RowOut
  have H := Lib.hid ht
  clear ht
  go_enter Tryd.func39, Tryd.ntmps39
  go_wp2_with fail
  refine (Tab.impl _ _ hb _).mono ?_
  rintro e w1 ⟨rfl, hb1⟩
  rw [H.out]
  obtain ⟨hc1, hf1⟩ := bcell hb1
  go_wp2_with fail
  go_ret
  exact ⟨_, rfl, nil_row _ _, ((Below.refl _ _).alloc (Nat.le_refl _) _).trans (hb1.mono (by simp))⟩

set_option maxRecDepth 100000 in
set_option maxHeartbeats 1000000 in
theorem Rec.impl_yes (n a : Nat) (hn : n ≤ 5) (ha : (a : Int) ≤ 4294967295) (ht : isT n a = true) (w : World) :
    Calls Tryd.prog 39 #[.agg #[.int .i64 n, .int .i64 a]] w (RowOut (recT n a) w) := by
  rw [recT_yes ht]
  unfold RowOut
  have hN5 := two_pow_le n hn
  have hN1 : 1 ≤ 2 ^ n := Nat.one_le_two_pow
  have HSEG := Lib.hid (seg_vals (w := a) hn)
  have HP : Hid (∀ (l : List Int) (B g cap c : Nat) (w : World), 0 + 2 ^ n ≤ l.length → l.length ≤ 32 → 2 ^ n ≤ c → (∀ x, x < 2 ^ n → -1 ≤ l.getD (0 + x) 0 ∧ l.getD (0 + x) 0 ≤ 1) → RowAt w B g cap l →
    Calls Tryd.prog 19 #[.slice (some ⟨g, 0, none⟩) (2 ^ n) c, .int .i64 (-1)] w (PartsOut (-1) n 0 l B g cap w)) := Lib.hid (fun l B g cap c w h1 h2 h3 h4 h5 =>
      Parts.any (-1) (.inr rfl) n hn 0 l 1 B g cap c w h1 h2 h3 (by decide) (by have e : ((2 : Int) ^ n) = ((2 ^ n : Nat) : Int) := (Int.natCast_pow 2 n).symm; rw [e]; omega) h4 h5)
  generalize hNe : 2 ^ n = N at *
  have HC := Lib.hid (Tab.countN n N hn hNe)
  have H := Lib.hid ht
  obtain ⟨i0, hi, hz0, hz1, hz2⟩ := info_parts Tryd.infoInt
  clear ht hNe
  go_enter Tryd.func39, Tryd.ntmps39
  go_wp2_with fail
  refine (Tab.impl _ _ (by omega) _).mono ?_
  rintro e w1 ⟨rfl, hb1⟩
  rw [H.out]
  have hz1' := hb1.size
  simp only [World.size_alloc] at hz1'
  have k0 : w1.cell? ⟨w.heap.size, 0, none⟩ = some (.int .i64 n) := keepB hb1 (keepN rfl rfl)
  have k1 : w1.cell? ⟨w.heap.size, 1, none⟩ = some (.int .i64 a) := keepB hb1 (keepN rfl rfl)
  have HB1 := Lib.hid (((Below.refl w.heap.size w).alloc (Nat.le_refl _) (.cells #[.int .i64 n, .int .i64 a] 23)).trans (hb1.mono (by simp)))
  clear hb1
  go_wp2_with fail
  refine (HC.out _).mono ?_
  rintro e w2 ⟨rfl, rfl⟩
  go_wp2_with (at_make; go_must (refine wpList_make_full _ rfl _ _ 28 rfl w1.heap.size 3 i0 (.int .i64 0) 1 Tryd.underlying28 hi hz0 hz1 _ _ _ _ N rfl rfl rfl rfl (by rw [hz2]; omega) (by unfold maxLen; omega) (Nat.le_refl _) ?_; intro w2 hown hgrow))
  have HROW := Lib.hid (IntRow.made hown)
  have hb2 : Below w1.heap.size w1 w2 := (Below.refl w1.heap.size w1).grown hgrow (Nat.le_refl _) (fun _ h => by cases h)
  have HB2 := Lib.hid (HB1.out.trans (hb2.mono (by omega)))
  have m0 := keepB hb2 k0
  have m1 := keepB hb2 k1
  clear hown hgrow hb2 hi hz0 hz1 hz2 k0 k1
  go_loopw [4, 14] (fun _ i wr => ∃ j : Nat, i = .int .i64 (j : Int) ∧ j ≤ N ∧ RowAt wr w.heap.size w1.heap.size N (putL (valZ a) 0 j (List.replicate N 0)) ∧ Below w.heap.size w wr ∧ wr.cell? ⟨w.heap.size, 0, none⟩ = some (.int .i64 n) ∧ wr.cell? ⟨w.heap.size, 1, none⟩ = some (.int .i64 a)) (fun _ i _ => N - (intOf i).toNat)
  case atStart => exact ⟨0, rfl, by omega, by rw [putL_none]; exact ⟨by rw [List.length_replicate]; exact HROW.out.base (by omega), by rw [List.length_replicate]; omega⟩, HB2.out, m0, m1⟩
  case round =>
    obtain ⟨j, rfl, hj, hrow, hbel, c0, c1⟩ := hrel
    have HB := Lib.hid hbel
    have hzr := hbel.size
    clear hbel
    by_cases hlt : j < N
    · have hcell := hrow.cell j (by rw [putL_len, List.length_replicate]; exact hlt)
      have hfree := hrow.free j
      have hst := hrow.store j (valZ a j)
      have hps := putL_set (valZ a) 0 j (List.replicate N 0) (by rw [List.length_replicate]; omega)
      rw [Nat.zero_add] at hps
      rw [hps] at hst
      unfold valZ at hst
      have HST := Lib.hid hst
      have HC0 := Lib.hid c0
      have HC1 := Lib.hid c1
      have hjz : (j : Int) < (N : Int) := by omega
      have hwr : IntKind.u64.wrap (a : Int) = (a : Int) := by rw [show IntKind.u64.wrap (a : Int) = (a : Int) % 18446744073709551616 from rfl]; omega
      generalize (putL (valZ a) 0 j (List.replicate N 0)).getD j 0 = old at hcell
      clear hst hps hrow
      go_wp2_with fail
      refine (Tab.at a j (by omega) (by omega) _).mono ?_
      rintro e w3 ⟨rfl, rfl⟩
      go_wp2_with fail
      go_roundw
      case rel => exact ⟨j + 1, by go_num, by omega, HST.out.1, bS (by show w.heap.size ≤ w1.heap.size; omega) HB.out, keepS (by show w1.heap.size ≠ w.heap.size; omega) HC0.out, keepS (by show w1.heap.size ≠ w.heap.size; omega) HC1.out⟩
      case measure => simp [intOf] <;> omega
    · obtain rfl : j = N := by omega
      have HR := Lib.hid hrow
      have hb1 := vals_bound (n := n) (w := a) (N := j)
      have HC1 := Lib.hid (HP.out _ _ _ j j wr (by rw [putL_len, List.length_replicate]; omega) (by rw [putL_len, List.length_replicate]; exact hN5) (Nat.le_refl _) hb1 hrow)
      clear hrow hb1
      go_wp2_with fail
      refine HC1.out.mono ?_
      rintro e w3 ⟨rfl, hr3, hg3⟩
      rw [HSEG.out] at hr3
      have HR3 := Lib.hid hr3
      have HB3 := Lib.hid (HB.out.grown hg3 (by omega) (fun k h => by cases h; omega))
      clear hr3 hg3
      go_wp2_with fail
      go_ret
      exact ⟨_, rfl, by have := HR3.out.1; rwa [reL_len] at this, HB3.out⟩

theorem Rec.impl (n a : Int) (hb : -9223372036854775808 ≤ a ∧ a ≤ 9223372036854775807) (w : World) :
    Calls Tryd.prog 39 #[.agg #[.int .i64 n, .int .i64 a]] w (RowOut (recT n a) w) := by
  cases ht : isT n a with
  | false => exact Rec.impl_no n a hb ht w
  | true =>
    obtain ⟨n, a, rfl, rfl, hn, ha⟩ := isT_nat ht
    exact Rec.impl_yes n a hn (by have := fullN_le n hn; omega) ht w

end Go.Proofs.YtphjaggiddjhgaaDoor

namespace Go.Proofs.YtphjaggiddjhgaaDoor
open Go.RowKit Plain
set_option linter.unusedVariables false

theorem and1_small : ∀ j < 65, Go.bits .and .i64 (((j : Nat) : Int) - 32) 1 = (((j : Nat) : Int) - 32) % 2 := by decide +kernel
theorem and1_int {z : Int} (h : -32 ≤ z ∧ z ≤ 32) : Go.bits .and .i64 z 1 = z % 2 := by
  have := and1_small (z + 32).toNat (by omega)
  rwa [show (((z + 32).toNat : Nat) : Int) - 32 = z by omega] at this

theorem Clo.anf (b g cap a x N : Nat) (hx : (x : Int) < (N : Int)) (hb : -32 ≤ reZ a x ∧ reZ a x ≤ 32) (hm : reZ a x % 2 = (anN a x : Int)) (W : World) (hc : W.cell? ⟨b, 0, none⟩ = some (.slice (some ⟨g, 0, none⟩) N cap)) (hr : W.cell? ⟨g, x, none⟩ = some (.int .i64 (reZ a x))) :
    Calls Tryd.prog 40 #[.int .i64 x, .pointer (some ⟨b, 0, none⟩)] W fun e w' => e = .returned (.int .i64 (anN a x : Int)) ∧ W = w' := by
  have H := Lib.hid (and1_int hb)
  have HM := Lib.hid hm
  generalize reZ a x = z at *
  clear hm
  go_enter Tryd.func40, Tryd.ntmps40
  go_wp2
  go_ret
  exact ⟨ret_int (by rw [H.out, HM.out]), rfl⟩

/-- What AnfOf answers. -/
def Plain.anfT (n a : Int) : Int × Int × Bool := if isT n a = true then (n, (anW n.toNat a.toNat : Int), true) else (0, 0, false)
theorem anfT_yes {n a : Nat} (h : isT n a = true) : anfT n a = ((n : Int), (anW n a : Int), true) := if_pos h
theorem anfT_no {n a : Int} (h : isT n a = false) : anfT n a = (0, 0, false) := if_neg (by rw [h]; decide)

theorem Anf.impl_no (n a : Int) (hb : -9223372036854775808 ≤ a ∧ a ≤ 9223372036854775807) (ht : isT n a = false) (w : World) :
    Calls Tryd.prog 29 #[.agg #[.int .i64 n, .int .i64 a]] w fun e w' => e = .returned (.tuple #[.agg #[.int .i64 0, .int .i64 0], .bool false]) ∧ Below w.heap.size w w' := by
  have H := Lib.hid ht
  clear ht
  go_enter Tryd.func29, Tryd.ntmps29
  go_wp2_with fail
  refine (Tab.impl _ _ hb _).mono ?_
  rintro e w1 ⟨rfl, hb1⟩
  rw [H.out]
  obtain ⟨hc1, hf1⟩ := bcell hb1
  have hz1 : w.heap.size + 1 < w1.heap.size := by have := hb1.size; simp at this; omega
  go_wp2_with fail
  exact bodyPost_ret (v := .tuple #[.agg #[.int .i64 0, .int .i64 0], .bool false]) (by simp [results, Tryd.results29, go_sem, hc1]) rfl ⟨rfl, bS (by simp) (bS (by simp) ((((Below.refl _ _).alloc (Nat.le_refl _) _).alloc (by simp) _).trans (hb1.mono (by simp; omega))))⟩

set_option maxRecDepth 100000 in
set_option maxHeartbeats 1000000 in
theorem Anf.impl_yes (n a : Nat) (hn : n ≤ 5) (ha : (a : Int) ≤ 4294967295) (ht : isT n a = true) (w : World) :
    Calls Tryd.prog 29 #[.agg #[.int .i64 n, .int .i64 a]] w fun e w' => e = .returned (.tuple #[.agg #[.int .i64 n, .int .i64 (anW n a : Int)], .bool true]) ∧ Below w.heap.size w w' := by
  have H := Lib.hid ht
  have HR := Lib.hid (Rec.impl_yes n a hn ha ht)
  have hN1 : 1 ≤ 2 ^ n := Nat.one_le_two_pow
  have HN := Lib.hid hn
  rw [recT_yes ht] at HR
  clear ht
  go_enter Tryd.func29, Tryd.ntmps29
  go_wp2_with fail
  refine (Tab.impl _ _ (by omega) _).mono ?_
  rintro e w1 ⟨rfl, hb1⟩
  rw [H.out]
  obtain ⟨hc1, hf1⟩ := bcell hb1
  have hz1 : w.heap.size + 1 < w1.heap.size := by have := hb1.size; simp at this; omega
  have hy1 : w.heap.size < w1.heap.size := by omega
  go_wp2_with fail
  refine (HR.out _).mono ?_
  rintro e w2 ⟨v, rfl, hrow, hb2⟩
  have hz2 := hb2.size
  obtain ⟨hc2, hf2⟩ := bcell hb2
  have HB2 := Lib.hid ((((Below.refl w.heap.size w).alloc (Nat.le_refl _) (.cells #[.int .i64 n, .int .i64 a] 23)).alloc (by simp) (.cells #[.int .i64 0, .int .i64 0] 23)).trans ((hb1.mono (by simp; omega)).trans (hb2.mono (by omega))))
  have hy2 : w.heap.size < w2.heap.size := by omega
  have hx2 : w.heap.size + 1 < w2.heap.size := by omega
  obtain ⟨g, cap, rfl, hg1, hg2⟩ : ∃ g cap, v = .slice (some ⟨g, 0, none⟩) (2 ^ n) cap ∧ w1.heap.size ≤ g ∧ g < w2.heap.size := by
    rcases hrow.shape with ⟨rfl, hnil⟩ | ⟨g, cap, rfl, h1, h2⟩
    · have := reL_len a (2 ^ n); rw [hnil] at this; simp at this; omega
    · exact ⟨g, cap, by rw [reL_len], h1, h2⟩
  have HCL : Hid (∀ x, x < 2 ^ n → w2.cell? ⟨g, x, none⟩ = some (.int .i64 (reZ a x))) := Lib.hid (fun x hx => by
    have := IntRow.cell (w := w2) (B := w1.heap.size) (g := g) (cap := cap) (l := reL a (2 ^ n)) (by rw [reL_len]; exact hrow) x (by rw [reL_len]; exact hx)
    rwa [reL_at hx] at this)
  clear hb1 hb2 hrow
  go_wp2_with fail
  refine (Tab.from_any n HN.out (anN a) 40 #[.pointer (some ⟨w2.heap.size, 0, none⟩)] (enters_of Tryd.func40 (by kernel_rfl) rfl) _ ?gv).mono ?_
  case gv =>
    intro W x hx hb
    refine (Clo.anf w2.heap.size g cap a x (2 ^ n) (by omega) (reZ_bound HN.out hx) (reZ_mod HN.out hx) W (cellOn hb (by simp)) (cellOn hb ?_)).mono fun e w' h => ⟨h.1, h.2 ▸ Below.refl _ _⟩
    first | exact keepA (HCL.out x hx) | exact keepS (by simp; omega) (keepA (HCL.out x hx))
  rintro e w3 ⟨rfl, hb3⟩
  obtain ⟨hc3, hf3⟩ := bcell hb3
  have hz3 : w2.heap.size < w3.heap.size := by have := hb3.size; simp at this; omega
  have hy3 : w.heap.size < w2.heap.size + 1 := by omega
  have hx3 : w.heap.size + 1 < w2.heap.size + 1 := by omega
  have hx4 : w.heap.size + 1 < w3.heap.size := by omega
  go_wp2_with fail
  exact bodyPost_ret (v := .tuple #[.agg #[.int .i64 n, .int .i64 (anW n a : Int)], .bool true]) (by simp [results, Tryd.results29, go_sem, hc3, hc2, hc1, hx3, hx2, hz1, anW]) rfl ⟨rfl, bS (by simp) (bS (by simp) ((bA (by omega) HB2.out).trans (hb3.mono (by simp; omega))))⟩

/-- AnfOf of the program. -/
theorem Anf.impl (n a : Int) (hb : -9223372036854775808 ≤ a ∧ a ≤ 9223372036854775807) (w : World) :
    Calls Tryd.prog 29 #[.agg #[.int .i64 n, .int .i64 a]] w fun e w' => e = .returned (.tuple #[.agg #[.int .i64 (anfT n a).1, .int .i64 (anfT n a).2.1], .bool (anfT n a).2.2]) ∧ Below w.heap.size w w' := by
  cases ht : isT n a with
  | false => rw [anfT_no ht]; exact Anf.impl_no n a hb ht w
  | true =>
    obtain ⟨n, a, rfl, rfl, hn, ha⟩ := isT_nat ht
    rw [anfT_yes ht]
    exact Anf.impl_yes n a hn (by have := fullN_le n hn; omega) ht w

/-! Degrees. -/
def Plain.degN (p : Nat → Bool) : Nat → Int
  | 0 => -1
  | k + 1 => if p k = true then max (degN p k) (popN k : Int) else degN p k
theorem degN_yes {p : Nat → Bool} {k : Nat} (h : p k = true) : degN p (k + 1) = max (degN p k) (popN k : Int) := if_pos h
theorem degN_no {p : Nat → Bool} {k : Nat} (h : p k = false) : degN p (k + 1) = degN p k := if_neg (by rw [h]; decide)
theorem degN_bound (p : Nat → Bool) (k : Nat) : k ≤ 32 → -1 ≤ degN p k ∧ degN p k ≤ 5 := by
  induction k with
  | zero => intro _; show (-1 : Int) ≤ -1 ∧ (-1 : Int) ≤ 5; decide
  | succ k ih =>
    intro hk
    have := ih (by omega)
    have h5 := popN_le 5 k (by omega)
    cases h : p k with
    | false => rw [degN_no h]; exact this
    | true => rw [degN_yes h]; omega
theorem degN_congr {p q : Nat → Bool} {k : Nat} (h : ∀ x, x < k → p x = q x) : degN p k = degN q k := by
  induction k with
  | zero => rfl
  | succ k ih =>
    have e := ih fun x hx => h x (by omega)
    have ek := h k (by omega)
    cases hq : q k with
    | false => rw [degN_no hq, degN_no (by rw [ek, hq]), e]
    | true => rw [degN_yes hq, degN_yes (by rw [ek, hq]), e]

def Plain.reP (a x : Nat) : Bool := decide (reZ a x ≠ 0)
/-- What DegreeMod2 and RealDegree answer. -/
def Plain.dmT (n a : Int) : Int := if isT n a = true then degN (anP a.toNat) (2 ^ n.toNat) else -2
def Plain.rdT (n a : Int) : Int := if isT n a = true then degN (reP a.toNat) (2 ^ n.toNat) else -2
theorem dmT_yes {n a : Nat} (h : isT n a = true) : dmT n a = degN (anP a) (2 ^ n) := if_pos h
theorem dmT_no {n a : Int} (h : isT n a = false) : dmT n a = -2 := if_neg (by rw [h]; decide)
theorem rdT_yes {n a : Nat} (h : isT n a = true) : rdT n a = degN (reP a) (2 ^ n) := if_pos h
theorem rdT_no {n a : Int} (h : isT n a = false) : rdT n a = -2 := if_neg (by rw [h]; decide)

end Go.Proofs.YtphjaggiddjhgaaDoor
