/-
  Chapter 11, the program: addParts.
-/
import Derived.Test.YtphjaggiddjhgaaDoorDegP
import Derived.Laws.DeepStrings4
namespace Go.Proofs.YtphjaggiddjhgaaDoor
open Go.RowKit Plain
set_option linter.unusedVariables false

theorem ext_getD {l m : List Int} (hn : l.length = m.length) (h : ∀ j, j < l.length → l.getD j 0 = m.getD j 0) : l = m := by
  apply List.ext_getElem hn
  intro j h1 h2
  have := h j h1
  rwa [List.getD_eq_getElem?_getD, List.getD_eq_getElem?_getD, List.getElem?_eq_getElem h1, List.getElem?_eq_getElem h2] at this

/-- The list with h's numbers from the place o on, N of them. -/
def Plain.putL (h : Nat → Int) (o N : Nat) (l : List Int) : List Int := (List.range l.length).map fun j => if o ≤ j ∧ j < o + N then h (j - o) else l.getD j 0
theorem putL_len (h : Nat → Int) (o N : Nat) (l : List Int) : (putL h o N l).length = l.length := by simp [putL]
theorem putL_at (h : Nat → Int) (o N : Nat) (l : List Int) {j : Nat} (hj : j < l.length) : (putL h o N l).getD j 0 = if o ≤ j ∧ j < o + N then h (j - o) else l.getD j 0 := by
  simp [putL, List.getD_eq_getElem?_getD, hj]
theorem putL_in (h : Nat → Int) (o N : Nat) (l : List Int) {x : Nat} (hx : x < N) (hj : o + x < l.length) : (putL h o N l).getD (o + x) 0 = h x := by
  rw [putL_at h o N l hj, if_pos ⟨by omega, by omega⟩, Nat.add_sub_cancel_left]
theorem putL_out (h : Nat → Int) (o N : Nat) (l : List Int) {j : Nat} (hj : j < l.length) (hn : ¬ (o ≤ j ∧ j < o + N)) : (putL h o N l).getD j 0 = l.getD j 0 := by
  rw [putL_at h o N l hj, if_neg hn]
theorem putL_none (h : Nat → Int) (o : Nat) (l : List Int) : putL h o 0 l = l := by
  refine ext_getD (putL_len ..) fun j hj => ?_
  rw [putL_len] at hj
  rw [putL_out _ _ _ _ hj (by omega)]
theorem getD_set (l : List Int) (i j : Nat) (v : Int) (h : j < l.length) : (l.set i v).getD j 0 = if i = j then v else l.getD j 0 := by
  rw [List.getD_eq_getElem?_getD, List.getElem?_set]
  by_cases e : i = j
  · subst e; simp [h]
  · simp [e]
theorem putL_set (h : Nat → Int) (o N : Nat) (l : List Int) (hn : o + N < l.length) : (putL h o N l).set (o + N) (h N) = putL h o (N + 1) l := by
  refine ext_getD (by rw [List.length_set, putL_len, putL_len]) fun j hj => ?_
  rw [List.length_set, putL_len] at hj
  rw [getD_set _ _ _ _ (by rw [putL_len]; exact hj), putL_at _ _ _ _ hj, putL_at _ _ _ _ hj]
  by_cases e : o + N = j
  · subst e; rw [if_pos rfl, if_pos ⟨by omega, by omega⟩, Nat.add_sub_cancel_left]
  · rw [if_neg e]
    by_cases e2 : o ≤ j ∧ j < o + N
    · rw [if_pos e2, if_pos ⟨by omega, by omega⟩]
    · rw [if_neg e2, if_neg (by omega)]
/-- The list whose numbers from the place o on are those with the parts' added. -/
def Plain.segL (f : Int) (k o : Nat) (l : List Int) : List Int := putL (parF f k fun x => l.getD (o + x) 0) o (2 ^ k) l
theorem segL_len (f : Int) (k o : Nat) (l : List Int) : (segL f k o l).length = l.length := putL_len ..
theorem segL_zero (f : Int) (o : Nat) (l : List Int) : segL f 0 o l = l := by
  refine ext_getD (segL_len ..) fun j hj => ?_
  rw [segL_len] at hj
  unfold segL
  rw [putL_at _ _ _ _ hj]
  split
  · rename_i h
    show l.getD (o + (j - o)) 0 = _
    rw [show o + (j - o) = j by omega]
  · rfl
/-- What is added to the upper half. -/
def Plain.addH (f : Int) (o H : Nat) (l : List Int) (x : Nat) : Int := l.getD (o + H + x) 0 + f * l.getD (o + x) 0
theorem segL_succ (f : Int) (k o : Nat) (l : List Int) (hl : o + 2 ^ (k + 1) ≤ l.length) :
    segL f k (o + 2 ^ k) (segL f k o (putL (addH f o (2 ^ k) l) (o + 2 ^ k) (2 ^ k) l)) = segL f (k + 1) o l := by
  have h2 : 2 ^ (k + 1) = 2 ^ k * 2 := Nat.pow_succ 2 k
  refine ext_getD (by rw [segL_len, segL_len, putL_len, segL_len]) fun j hj => ?_
  rw [segL_len, segL_len, putL_len] at hj
  have e1 : ∀ x, x < 2 ^ k → (putL (addH f o (2 ^ k) l) (o + 2 ^ k) (2 ^ k) l).getD (o + x) 0 = l.getD (o + x) 0 := fun x hx => putL_out _ _ _ _ (by omega) (by omega)
  have e2 : ∀ x, x < 2 ^ k → (segL f k o (putL (addH f o (2 ^ k) l) (o + 2 ^ k) (2 ^ k) l)).getD (o + 2 ^ k + x) 0 = l.getD (o + (2 ^ k + x)) 0 + f * l.getD (o + x) 0 := fun x hx => by
    show (putL _ _ _ _).getD _ 0 = _
    rw [putL_out _ _ _ _ (by rw [putL_len]; omega) (by omega), putL_in _ _ _ _ hx (by omega)]
    unfold addH
    rw [Nat.add_assoc]
  by_cases ha : o ≤ j ∧ j < o + 2 ^ k
  · obtain ⟨z, rfl⟩ : ∃ z, j = o + z := ⟨j - o, by omega⟩
    show (putL _ _ _ _).getD _ 0 = (putL _ _ _ _).getD _ 0
    rw [putL_out _ _ _ _ (by rw [segL_len, putL_len]; exact hj) (by omega)]
    show (putL _ _ _ _).getD _ 0 = _
    rw [putL_in _ _ _ _ (by omega) (by rw [putL_len]; exact hj), putL_in _ _ _ _ (by omega) hj, parF_lo (by omega)]
    exact parF_congr f k _ _ e1 z (by omega)
  · by_cases hb : o + 2 ^ k ≤ j ∧ j < o + 2 ^ k + 2 ^ k
    · obtain ⟨z, rfl⟩ : ∃ z, j = o + 2 ^ k + z := ⟨j - (o + 2 ^ k), by omega⟩
      show (putL _ _ _ _).getD _ 0 = (putL _ _ _ _).getD _ 0
      rw [putL_in _ _ _ _ (by omega) (by rw [segL_len, putL_len]; exact hj)]
      have hj2 : o + (2 ^ k + z) < l.length := by omega
      rw [show o + 2 ^ k + z = o + (2 ^ k + z) by omega, putL_in _ _ _ _ (by omega) hj2, parF_hi]
      exact parF_congr f k _ _ e2 z (by omega)
    · show (putL _ _ _ _).getD _ 0 = (putL _ _ _ _).getD _ 0
      rw [putL_out _ _ _ _ (by rw [segL_len, putL_len]; exact hj) (by omega)]
      show (putL _ _ _ _).getD _ 0 = _
      rw [putL_out _ _ _ _ (by rw [putL_len]; exact hj) (by omega), putL_out _ _ _ _ hj (by omega), putL_out _ _ _ _ hj (by omega)]

/-! The walk. -/
theorem slice_low (b off len cap h : Nat) (hh : 1 ≤ h) (hc : h ≤ cap) (w' : World) :
    (Instr.slice 28 (.slice (some ⟨b, off, none⟩) len cap) none (some (.int .i64 (h : Int))) (some (.int .i64 (h : Int)))).run Tryd.prog w' = .ok (.slice (some ⟨b, off, none⟩) h h) w' := by
  rw [run_slice_hm (P := Tryd.prog) w' 28 (some ⟨b, off, none⟩) len cap (by kernel_rfl) .i64 .i64 (h : Int) (h : Int) (by omega) (by omega) (by omega)]
  have hs : (sizeOf (Tryd.prog.elem 28)).run Tryd.prog w' = .ok 1 w' := by kernel_rfl
  rw [hs]
  have hadd : (⟨b, off, none⟩ : Addr).add (0 * 1) = ⟨b, off, none⟩ := by unfold Addr.add; split <;> simp_all
  rw [Nat.zero_mul] at hadd
  simp [Result.andThen, sliced, hadd]
theorem slice_high (b off len cap h : Nat) (hh : h < len) (hc : len ≤ cap) (w' : World) :
    (Instr.slice 28 (.slice (some ⟨b, off, none⟩) len cap) (some (.int .i64 (h : Int))) none none).run Tryd.prog w' = .ok (.slice (some ⟨b, off + h, none⟩) (len - h) (cap - h)) w' := by
  have hadd : (⟨b, off, none⟩ : Addr).add (h * 1) = ⟨b, off + h, none⟩ := by unfold Addr.add; split <;> simp_all
  rw [run_slice_l (P := Tryd.prog) w' 28 (some ⟨b, off, none⟩) len cap (by kernel_rfl) .i64 (h : Int) (by omega) (by omega)]
  have hs : (sizeOf (Tryd.prog.elem 28)).run Tryd.prog w' = .ok 1 w' := by kernel_rfl
  rw [hs]
  rw [Nat.mul_one] at hadd
  simp [Result.andThen, sliced, hadd, (show ¬ cap = h by omega)]

theorem grownStep {w w1 w2 : World} {r : Option Nat} (h1 : w.grownBy w1 r) (h2 : w1.grownBy w2 r) : w.grownBy w2 r :=
  ⟨h2.os.trans h1.os, h2.tape.trans h1.tape, h2.output.trans h1.output, Nat.le_trans h1.size h2.size, fun i hi hne => (h2.block i (Nat.lt_of_lt_of_le hi h1.size) hne).trans (h1.block i hi hne)⟩
theorem grownRefl (w : World) (r : Option Nat) : w.grownBy w r := ⟨rfl, rfl, rfl, Nat.le_refl _, fun _ _ _ => rfl⟩

theorem RowAt.store {w : World} {B g cap : Nat} {l : List Int} (h : RowAt w B g cap l) (j : Nat) (x : Int) :
    RowAt (w.setCell ⟨g, j, none⟩ (.int .i64 x)) B g cap (l.set j x) ∧ w.grownBy (w.setCell ⟨g, j, none⟩ (.int .i64 x)) (some g) := by
  have h2 := h.1.store rfl j x
  exact ⟨⟨by rw [List.length_set]; exact h2.1, by rw [List.length_set]; exact h.2⟩, h2.2⟩
theorem RowAt.free {w : World} {B g cap : Nat} {l : List Int} (h : RowAt w B g cap l) (j : Nat) : w.frozen? ⟨g, j, none⟩ = false := h.1.free j
theorem RowAt.drewN {w : World} {B g cap : Nat} {l : List Int} (h : RowAt w B g cap l) (n : Nat) : RowAt (w.drewN n) B g cap l := h.below ⟨rfl, rfl, rfl, Nat.le_refl _, fun _ _ => rfl⟩

/-- What addParts leaves. -/
def PartsOut (f : Int) (k o : Nat) (l : List Int) (B g cap : Nat) (w : World) (e : Ending) (w' : World) : Prop :=
  e = .returned (.tuple #[]) ∧ RowAt w' B g cap (segL f k o l) ∧ w.grownBy w' (some g)

theorem Parts.one (f : Int) (o : Nat) (l : List Int) (B g cap c : Nat) (w : World) (hr : RowAt w B g cap l) :
    Calls Tryd.prog 19 #[.slice (some ⟨g, o, none⟩) 1 c, .int .i64 f] w (PartsOut f 0 o l B g cap w) := by
  have HR := Lib.hid hr
  clear hr
  go_enter Tryd.func19, Tryd.ntmps19
  go_wp2
  exact bodyPost_ret (v := .tuple #[]) (by simp [results, Tryd.results19, go_sem]) rfl ⟨rfl, by rw [segL_zero]; exact HR.out, grownRefl _ _⟩

set_option maxRecDepth 100000 in
set_option maxHeartbeats 1000000 in
theorem Parts.step (f : Int) (hf : f = 1 ∨ f = -1) (k : Nat) (o : Nat) (l : List Int) (b : Int) (B g cap c : Nat) (w : World) (hk : k < 5) (hl : o + 2 ^ (k + 1) ≤ l.length) (hl32 : l.length ≤ 32) (hc : 2 ^ (k + 1) ≤ c)
    (hb0 : 0 ≤ b) (hbk : b * 2 ^ (k + 1) ≤ 1000000) (hx : ∀ x, x < 2 ^ (k + 1) → -b ≤ l.getD (o + x) 0 ∧ l.getD (o + x) 0 ≤ b) (hr : RowAt w B g cap l)
    (ih : ∀ (o' : Nat) (l' : List Int) (c' : Nat) (w' : World), o' + 2 ^ k ≤ l'.length → l'.length ≤ 32 → 2 ^ k ≤ c' → (∀ x, x < 2 ^ k → -(2 * b) ≤ l'.getD (o' + x) 0 ∧ l'.getD (o' + x) 0 ≤ 2 * b) → RowAt w' B g cap l' →
      Calls Tryd.prog 19 #[.slice (some ⟨g, o', none⟩) (2 ^ k) c', .int .i64 f] w' (PartsOut f k o' l' B g cap w')) :
    Calls Tryd.prog 19 #[.slice (some ⟨g, o, none⟩) (2 ^ (k + 1)) c, .int .i64 f] w (PartsOut f (k + 1) o l B g cap w) := by
  have h2 : 2 ^ (k + 1) = 2 ^ k * 2 := Nat.pow_succ 2 k
  have hH1 : 1 ≤ 2 ^ k := Nat.one_le_two_pow
  have hH : 2 ^ k ≤ 16 := Nat.pow_le_pow_right (by decide) (show k ≤ 4 by omega)
  have hbb : b ≤ 1000000 := by
    have : b * 1 ≤ b * 2 ^ (k + 1) := Int.mul_le_mul_of_nonneg_left (by have := Int.natCast_pow 2 (k + 1); have h3 : ((2 ^ (k + 1) : Nat) : Int) = (2 : Int) ^ (k + 1) := this; rw [← h3]; omega) hb0
    omega
  have HS := Lib.hid (segL_succ f k o l hl)
  have HIH := Lib.hid ih
  have HX := Lib.hid hx
  have HR := Lib.hid hr
  have HF := Lib.hid hf
  clear ih hx hr hf hbk
  unfold PartsOut
  rw [← HS.out]
  generalize hN : 2 ^ (k + 1) = N at *
  generalize hHe : 2 ^ k = H at *
  have HN := Lib.hid hN
  have HHe := Lib.hid hHe
  clear hN hHe
  have hdiv : (N : Int) / 2 = (H : Int) := by omega
  have hN2 : 2 ≤ (N : Int) := by omega
  have hN32 : (N : Int) ≤ 32 := by omega
  have hNH : N - H = H := by omega
  have HLO := Lib.hid (fun w' => slice_low g o N c H hH1 (by omega) w')
  have HHI := Lib.hid (fun w' => slice_high g o N c H (by omega) hc w')
  have hlo := HLO.out
  have hhi := HHI.out
  rw [hNH] at hhi
  have HL : Hid (o + N ≤ l.length) := Lib.hid hl
  have HN2 := Lib.hid h2
  clear hNH h2 hl
  go_enter Tryd.func19, Tryd.ntmps19
  go_wp2_with fail
  go_quiet (fail)
  go_wp2_with fail
  go_loopw [24] (fun i wr => ∃ j : Nat, i = .int .i64 (j : Int) ∧ j ≤ H ∧ RowAt wr B g cap (putL (addH f o H l) (o + H) j l) ∧ w.grownBy wr (some g)) (fun i _ => H - (intOf i).toNat)
  case atStart => exact ⟨0, rfl, by omega, by rw [putL_none]; exact HR.out.drewN _, ⟨rfl, rfl, rfl, Nat.le_refl _, fun _ _ _ => rfl⟩⟩
  case round =>
    obtain ⟨j, rfl, hj, hrow, hgr⟩ := hrel
    have HG := Lib.hid hgr
    clear hgr
    by_cases hlt : j < H
    · have hoj : o + j < l.length := by have := HL.out; have := HN2.out; omega
      have hohj : o + H + j < l.length := by have := HL.out; have := HN2.out; omega
      have c1 := hrow.cell (o + j) (by rw [putL_len]; exact hoj)
      have c2 := hrow.cell (o + H + j) (by rw [putL_len]; exact hohj)
      rw [putL_out _ _ _ _ hoj (by omega)] at c1
      rw [putL_out _ _ _ _ hohj (by omega)] at c2
      have hfree := hrow.free (o + H + j)
      have b1 := HX.out j (by have := HN2.out; omega)
      have b2 := HX.out (H + j) (by have := HN2.out; omega)
      rw [← Nat.add_assoc] at b2
      have hst := hrow.store (o + H + j) (addH f o H l j)
      rw [putL_set _ _ _ _ hohj] at hst
      unfold addH at hst
      generalize hx1 : l.getD (o + j) 0 = x at *
      generalize hy1 : l.getD (o + H + j) 0 = y at *
      have hfx : -b ≤ f * x ∧ f * x ≤ b := by
        rcases HF.out with rfl | rfl
        · rw [Int.one_mul]; exact b1
        · rw [Int.neg_mul, Int.one_mul]; omega
      have HST := Lib.hid hst
      have hjz : (j : Int) < (H : Int) := by omega
      clear hx1 hy1 hst hrow
      go_wp2_with fail
      go_roundw
      case rel => exact ⟨j + 1, by go_num, by omega, HST.out.1, grownStep HG.out HST.out.2⟩
      case measure => simp [intOf] <;> omega
    · obtain rfl : j = H := by omega
      have hll : o + (j + j) ≤ l.length := by have := HL.out; have := HN2.out; omega
      have B1 : ∀ x, x < j → -(2 * b) ≤ (putL (addH f o j l) (o + j) j l).getD (o + x) 0 ∧ (putL (addH f o j l) (o + j) j l).getD (o + x) 0 ≤ 2 * b := fun x hx => by
        rw [putL_out _ _ _ _ (by omega) (by omega)]
        have := HX.out x (by have := HN2.out; omega)
        omega
      have B2 : ∀ x, x < j → -(2 * b) ≤ (segL f k o (putL (addH f o j l) (o + j) j l)).getD (o + j + x) 0 ∧ (segL f k o (putL (addH f o j l) (o + j) j l)).getD (o + j + x) 0 ≤ 2 * b := fun x hx => by
        show -(2 * b) ≤ (putL _ _ _ _).getD _ 0 ∧ (putL _ _ _ _).getD _ 0 ≤ 2 * b
        rw [putL_out _ _ _ _ (by rw [putL_len]; omega) (by rw [HHe.out]; omega), putL_in _ _ _ _ hx (by omega)]
        have b1 := HX.out x (by have := HN2.out; omega)
        have b2 := HX.out (j + x) (by have := HN2.out; omega)
        rw [← Nat.add_assoc] at b2
        unfold addH
        rcases HF.out with rfl | rfl
        · rw [Int.one_mul]; omega
        · rw [Int.neg_mul, Int.one_mul]; omega
      have C1 := Lib.hid (HIH.out o _ j wr (by rw [putL_len]; omega) (by rw [putL_len]; exact hl32) (Nat.le_refl _) B1 hrow)
      have C2 := Lib.hid (fun w' h => HIH.out (o + j) _ (c - j) w' (by rw [segL_len, putL_len]; omega) (by rw [segL_len, putL_len]; exact hl32) (by have := HN2.out; omega) B2 h)
      clear B1 B2 hrow hll
      go_wp2_with fail
      refine C1.out.mono ?_
      rintro e w1 ⟨rfl, hr1, hg1⟩
      have HR1 := Lib.hid hr1
      have HG1 := Lib.hid (grownStep HG.out hg1)
      clear hr1 hg1
      go_wp2_with fail
      refine (C2.out _ HR1.out).mono ?_
      rintro e w2 ⟨rfl, hr2, hg2⟩
      have HR2 := Lib.hid hr2
      have HG2 := Lib.hid (grownStep HG1.out hg2)
      clear hr2 hg2
      go_wp2_with fail
      exact bodyPost_end (v := .tuple #[]) (by simp [results, Tryd.results19, go_sem]) rfl ⟨rfl, HR2.out, HG2.out⟩

/-- addParts. -/
theorem Parts.any (f : Int) (hf : f = 1 ∨ f = -1) (k : Nat) : k ≤ 5 → ∀ (o : Nat) (l : List Int) (b : Int) (B g cap c : Nat) (w : World), o + 2 ^ k ≤ l.length → l.length ≤ 32 → 2 ^ k ≤ c → 0 ≤ b → b * 2 ^ k ≤ 1000000 →
    (∀ x, x < 2 ^ k → -b ≤ l.getD (o + x) 0 ∧ l.getD (o + x) 0 ≤ b) → RowAt w B g cap l →
    Calls Tryd.prog 19 #[.slice (some ⟨g, o, none⟩) (2 ^ k) c, .int .i64 f] w (PartsOut f k o l B g cap w) := by
  induction k with
  | zero => intro _ o l b B g cap c w _ _ _ _ _ _ hr; exact Parts.one f o l B g cap c w hr
  | succ k ih =>
    intro hk o l b B g cap c w h1 h2 h3 h4 h5 h6 h7
    refine Parts.step f hf k o l b B g cap c w (by omega) h1 h2 h3 h4 h5 h6 h7 fun o' l' c' w' a1 a2 a3 a4 a5 => ?_
    refine ih (by omega) o' l' (2 * b) B g cap c' w' a1 a2 a3 (by omega) ?_ a4 a5
    have e : 2 * b * 2 ^ k = b * 2 ^ (k + 1) := by rw [Int.pow_succ, Int.mul_comm 2 b, Int.mul_assoc, Int.mul_comm 2 (2 ^ k)]
    rw [e]; exact h5

end Go.Proofs.YtphjaggiddjhgaaDoor
