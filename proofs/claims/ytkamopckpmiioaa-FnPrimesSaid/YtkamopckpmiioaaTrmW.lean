/-
  Rows of words; the words of a list of terms; what one of them only has.
-/
import Derived.Test.YtkamopckpmiioaaTrmT
import Derived.Test.YtkamopckpmiioaaTrmP

namespace Go.Proofs.Ytkamopckpmiioaa
open Go.RowKit Plain
set_option linter.unusedVariables false

theorem Try.infoWord : (Try.prog.info? 90).map (fun i => (i.zero, i.size, i.bytes)) = some (some (.int .u64 0), 1, 8) := by kernel_rfl

def wdV (l : List Nat) : List Value := l.map (fun (x : Nat) => Value.int .u64 (x : Int))
def WdRow (w : World) (B : Nat) (v : Value) (l : List Nat) : Prop := w.ownsRow B 90 1 v l.length (wdV l)
theorem WdRow.below {w w' : World} {B : Nat} {v : Value} {l : List Nat} (h : WdRow w B v l) (hb : Below w.heap.size w w') : WdRow w' B v l :=
  World.ownsRow.kept h (grownNone hb) (by cases hv : v.ownBlock <;> simp)
theorem WdRow.alloc {w : World} {B : Nat} {v : Value} {l : List Nat} (h : WdRow w B v l) (o : Obj) : WdRow (w.alloc o) B v l := World.ownsRow.alloc h o
theorem WdRow.shape {w : World} {B : Nat} {v : Value} {l : List Nat} (h : WdRow w B v l) : (v = .slice none 0 0 ∧ l = []) ∨ ∃ g cap, v = .slice (some ⟨g, 0, none⟩) l.length cap ∧ B ≤ g ∧ g < w.heap.size ∧ l.length ≤ cap ∧ cap ≤ maxLen := by
  rcases h.2 with ⟨rfl, hn⟩ | ⟨g, cap, cur, rfl, hb, hg, hc, hm, _⟩
  · exact .inl ⟨rfl, List.eq_nil_of_length_eq_zero hn⟩
  · exact .inr ⟨g, cap, rfl, hb, (Array.getElem?_eq_some_iff.1 hg).1, hc, hm⟩
theorem WdRow.cell {w : World} {B g cap : Nat} {l : List Nat} (h : WdRow w B (.slice (some ⟨g, 0, none⟩) l.length cap) l) (j : Nat) (hj : j < l.length) :
    w.cell? ⟨g, j, none⟩ = some (.int .u64 ((l.getD j 0 : Nat) : Int)) := by
  unfold WdRow at h
  rw [World.ownsRow.cellAt h j (by omega)]
  simp [wdV, hj, List.getD_eq_getElem?_getD]
theorem WdRow.free {w : World} {B g cap : Nat} {l : List Nat} (h : WdRow w B (.slice (some ⟨g, 0, none⟩) l.length cap) l) (j : Nat) : w.frozen? ⟨g, j, none⟩ = false := by
  unfold WdRow at h
  exact World.ownsRow.frozenAt h j
theorem WdRow.store {w : World} {B g cap n : Nat} {l : List Nat} (h : WdRow w B (.slice (some ⟨g, 0, none⟩) n cap) l) (hn : l.length = n) (j : Nat) (x : Nat) :
    WdRow (w.setCell ⟨g, j, none⟩ (.int .u64 (x : Int))) B (.slice (some ⟨g, 0, none⟩) n cap) (l.set j x) := by
  unfold WdRow at h ⊢
  rw [hn] at h
  have h2 := World.ownsRow.stored h j (.int .u64 (x : Int))
  rw [List.length_set, hn]
  have e : wdV (l.set j x) = (wdV l).set j (.int .u64 (x : Int)) := by simp [wdV, List.map_set]
  rw [e]
  exact h2.1
theorem WdRow.made {w : World} {B n : Nat} {v : Value} (h : w.ownsRow B 90 1 v n (madeCells (Value.int .u64 0).cells (n * 1)).toList) : WdRow w B v (List.replicate n 0) := by
  have e : (madeCells (Value.int .u64 0).cells (n * 1)).toList = wdV (List.replicate n 0) := by
    show (madeCells #[Value.int .u64 0] (n * 1)).toList = _
    rw [toList_madeCells_one, Nat.mul_one]
    simp [wdV]
  unfold WdRow
  rw [← e, List.length_replicate]
  exact h

/-- A list of words that can be read. -/
def WdIn (w : World) (v : Value) (l : List Nat) : Prop :=
  ∃ a cap, v = .slice a l.length cap ∧ (l.length : Int) ≤ 2000000 ∧ l.length ≤ cap ∧ (cap : Int) ≤ 9223372036854775807 ∧ (∀ j, (((l.getD j 0 : Nat)) : Int) ≤ 4294967295) ∧
    (0 < l.length → ∃ b off, a = some ⟨b, off, none⟩ ∧ b < w.heap.size ∧ ∀ j, j < l.length → w.cell? ⟨b, off + j, none⟩ = some (.int .u64 ((l.getD j 0 : Nat) : Int)))
theorem WdIn.below {w w' : World} {v : Value} {l : List Nat} (h : WdIn w v l) (hb : Below w.heap.size w w') : WdIn w' v l := by
  obtain ⟨a, cap, rfl, h1, h1a, h1b, h2, h3⟩ := h
  refine ⟨a, cap, rfl, h1, h1a, h1b, h2, fun h0 => ?_⟩
  obtain ⟨b, off, rfl, hlt, hc⟩ := h3 h0
  exact ⟨b, off, rfl, Nat.lt_of_lt_of_le hlt hb.size, fun j hj => (hb.cell (p := ⟨b, off + j, none⟩) hlt).trans (hc j hj)⟩
theorem WdRow.words {w : World} {B : Nat} {v : Value} {l : List Nat} (h : WdRow w B v l) (hl : l.length ≤ 2000000) (hx : ∀ j, (((l.getD j 0 : Nat)) : Int) ≤ 4294967295) : WdIn w v l := by
  rcases h.shape with ⟨rfl, rfl⟩ | ⟨g, cap, rfl, hB, hg, hc, hm⟩
  · exact ⟨none, 0, rfl, by decide, by decide, by decide, hx, fun h => absurd h (by decide)⟩
  · exact ⟨_, cap, rfl, by omega, hc, by unfold maxLen at hm; omega, hx, fun h0 => ⟨g, 0, rfl, hg, fun j hj => by rw [Nat.zero_add]; exact h.cell j hj⟩⟩
theorem WdIn.drop {w : World} {b off cap : Nat} {l : List Nat} (h : WdIn w (.slice (some ⟨b, off, none⟩) l.length cap) l) (j : Nat) (hj : j ≤ l.length) : WdIn w (.slice (some ⟨b, off + j, none⟩) (l.length - j) (cap - j)) (l.drop j) := by
  obtain ⟨a, cap', e, h1, h1a, h1b, h2, h3⟩ := h
  simp only [Value.slice.injEq, true_and] at e
  obtain ⟨rfl, rfl⟩ := e
  have e2 : ∀ i, (l.drop j).getD i 0 = l.getD (j + i) 0 := fun i => by simp [List.getD_eq_getElem?_getD]
  refine ⟨_, cap - j, by rw [List.length_drop], by rw [List.length_drop]; omega, by rw [List.length_drop]; omega, by omega, fun i => by rw [e2]; exact h2 _, fun h0 => ?_⟩
  rw [List.length_drop] at h0
  obtain ⟨b', off', e, hlt, hc⟩ := h3 (by omega)
  simp only [Option.some.injEq, Addr.mk.injEq, and_true] at e
  obtain ⟨rfl, rfl⟩ := e
  refine ⟨b, off + j, rfl, hlt, fun i hi => ?_⟩
  rw [List.length_drop] at hi
  rw [e2, show off + j + i = off + (j + i) by omega]
  exact hc (j + i) (by omega)

theorem andnotU64 (a b : Nat) (ha : (a : Int) ≤ 4294967295) (hb : (b : Int) ≤ 4294967295) : Go.bits .andNot .u64 (a : Int) (b : Int) = ((cutN a b : Nat) : Int) := by
  have hle := cutN_le a b
  have e : (BitVec.ofInt 64 (a : Int) &&& ~~~(BitVec.ofInt 64 (b : Int))).toNat = cutN a b := by
    apply Nat.eq_of_testBit_eq
    intro i
    rw [BitVec.testBit_toNat, BitVec.getLsbD_and, BitVec.getLsbD_not, ← BitVec.testBit_toNat, ← BitVec.testBit_toNat, upU64 a (by omega), upU64 b (by omega), cutN_bit]
    by_cases hi : i < 64
    · simp [hi]
    · have : a.testBit i = false := Nat.testBit_lt_two_pow (Nat.lt_of_lt_of_le (show a < 2 ^ 64 by omega) (Nat.pow_le_pow_right (by decide) (by omega)))
      simp [this]
  show IntKind.u64.wrap ((BitVec.ofInt 64 (a : Int) &&& ~~~(BitVec.ofInt 64 (b : Int))).toNat : Int) = _
  rw [e, IntKind.wrap_u64]
  omega

/-! The words of a list of terms. -/
theorem wcopy_set (l : List Nat) (k : Nat) (h : k < l.length) : (l.take k ++ List.replicate (l.length - k) 0).set k (l.getD k 0) = l.take (k + 1) ++ List.replicate (l.length - (k + 1)) 0 := by
  have hk : (l.take k).length = k := by rw [List.length_take]; omega
  rw [List.set_append_right _ _ (by omega), hk, Nat.sub_self, show l.length - k = (l.length - (k + 1)) + 1 by omega, List.replicate_succ, List.set_cons_zero, List.take_succ_eq_append_getElem h, List.append_assoc]
  congr 1
  rw [List.getD_eq_getElem?_getD, List.getElem?_eq_getElem h]
  rfl
theorem wcopy_len (l : List Nat) (k : Nat) (h : k ≤ l.length) : (l.take k ++ List.replicate (l.length - k) 0).length = l.length := by
  rw [List.length_append, List.length_take, List.length_replicate]; omega
/-- A list of words in new memory. -/
def WdOut (l : List Nat) (w : World) (e : Ending) (w' : World) : Prop := ∃ g, e = .returned (.slice (some ⟨g, 0, none⟩) l.length l.length) ∧ WdRow w' w.heap.size (.slice (some ⟨g, 0, none⟩) l.length l.length) l ∧ Below w.heap.size w w'
theorem wordsL_len (n : Nat) (l : List Tm) : (wordsL n l).length = l.length := by unfold wordsL; rw [List.length_map]

set_option maxRecDepth 100000 in
set_option maxHeartbeats 1000000 in
theorem Wd.inputs (n : Nat) (hn : n ≤ 5) (l : List Tm) (hls : ∀ t ∈ l, t.1 ≤ 31) (ad : Option Addr) (cap : Nat) (w : World) (h : TmsIn w (.slice ad l.length cap) (tiL l)) :
    Calls Try.prog 68 #[.int .i64 n, .slice ad l.length cap] w (WdOut (wordsL n l) w) := by
  obtain ⟨a, cap', e, hl, _, _, _, hrd⟩ := h
  rw [tiL_len] at e hl hrd
  simp only [Value.slice.injEq, true_and] at e
  obtain ⟨rfl, rfl⟩ := e
  obtain ⟨i0, hi, hz0, hz1, hz2⟩ := info_parts Try.infoWord
  have HRD := Lib.hid hrd
  have HN := Lib.hid hn
  have HLS := Lib.hid hls
  have hwl := wordsL_len n l
  have HWL := Lib.hid hwl
  have hn5 : (n : Int) ≤ 5 := by omega
  unfold WdOut
  rw [hwl]
  clear hrd hn hls
  go_enter Try.func68, Try.ntmps68
  go_wp2_with (at_make; go_must (refine wpList_make_full _ rfl _ _ 87 rfl w.heap.size 90 i0 (.int .u64 0) 1 Try.underlying87 hi hz0 hz1 _ _ _ _ l.length rfl rfl rfl rfl (by rw [hz2]; omega) (by unfold maxLen; omega) (Nat.le_refl _) ?_; intro w1 hown hgrow))
  have HROW := Lib.hid (WdRow.made hown)
  have HB := Lib.hid ((Below.refl w.heap.size w).grown hgrow (Nat.le_refl _) (fun _ h => by cases h))
  have hs1 : w.heap.size < w1.heap.size := by
    rcases hown.2 with ⟨h, _⟩ | ⟨g, cp, cur, h, hb, hg, _⟩
    · cases h
    · simp only [Value.slice.injEq, Option.some.injEq, Addr.mk.injEq, and_true, true_and] at h
      rw [h.1]; exact (Array.getElem?_eq_some_iff.1 hg).1
  clear hown hgrow hi hz0 hz1 hz2
  go_loopw [6, 7, 13] (fun _ _ i wr => ∃ k : Nat, i = .int .i64 (k : Int) ∧ k ≤ l.length ∧ WdRow wr w.heap.size (.slice (some ⟨w.heap.size, 0, none⟩) l.length l.length) ((wordsL n l).take k ++ List.replicate (l.length - k) 0) ∧ Below w.heap.size w wr ∧ w.heap.size < wr.heap.size) (fun _ _ i _ => l.length - (intOf i).toNat)
  case atStart => exact ⟨0, rfl, by omega, by simpa using HROW.out, HB.out, hs1⟩
  case round =>
    clear hs1
    obtain ⟨k, rfl, hk, hrow, hbel, hsz⟩ := hrel
    have HBEL := Lib.hid hbel
    by_cases hlt : k < l.length
    · obtain ⟨b, off, rfl, hbw, hcl⟩ := HRD.out (by omega)
      have hcl2 := hcl k hlt
      rw [tiL_getD l k hlt] at hcl2
      have hc0 : wr.cell? ⟨b, off + k * 2, none⟩ = some (.int .i64 ((l.getD k (0, 0)).1 : Int)) := (hbel.cell (p := ⟨b, off + k * 2, none⟩) hbw).trans hcl2.1
      have hc1 : wr.cell? ⟨b, off + k * 2 + 1, none⟩ = some (.int .i64 ((l.getD k (0, 0)).2 : Int)) := (hbel.cell (p := ⟨b, off + k * 2 + 1, none⟩) hbw).trans hcl2.2
      have hkz : (k : Int) < (l.length : Int) := by omega
      have HLT := Lib.hid hlt
      have HROW2 := Lib.hid hrow
      have HM : Hid (((l.getD k (0, 0)).1 : Int) ≤ 31) := Lib.hid (by have := HLS.out _ (getD_of_lt hlt); omega)
      have hset := wcopy_set (wordsL n l) k (by rw [HWL.out]; exact hlt)
      rw [wordsL_getD n l k hlt, HWL.out] at hset
      have HSET := Lib.hid hset
      have HI := Lib.hid (Trm.inputs n (l.getD k (0, 0)).1 (l.getD k (0, 0)).2 HN.out HM.out)
      have e : wT n (l.getD k (0, 0)) = tmW (l.getD k (0, 0)).1 (l.getD k (0, 0)).2 (2 ^ n) := rfl
      rw [e] at HSET
      clear hbel hcl hcl2 hrow hlt hset e
      generalize tmW (l.getD k (0, 0)).1 (l.getD k (0, 0)).2 (2 ^ n) = u at HI HSET
      generalize (l.getD k (0, 0)).1 = m at hc0 HI HM
      generalize (l.getD k (0, 0)).2 = v at hc1 HI
      go_wp2_with fail
      refine (HI.out _).mono ?_
      rintro e w2 ⟨rfl, hb2⟩
      have hs2 := hb2.size
      simp only [World.size_alloc] at hs2
      have hrow := (WdRow.alloc HROW2.out (.cells #[.int .i64 (m : Int), .int .i64 (v : Int)] 25)).below hb2
      have hlen : ((wordsL n l).take k ++ List.replicate (l.length - k) 0).length = l.length := by
        have := wcopy_len (wordsL n l) k (by rw [HWL.out]; exact hk)
        rw [HWL.out] at this; exact this
      have d0 := WdRow.cell (w := w2) (B := w.heap.size) (g := w.heap.size) (cap := l.length) (l := (wordsL n l).take k ++ List.replicate (l.length - k) 0) (by rw [hlen]; exact hrow) k (by rw [hlen]; exact HLT.out)
      have f0 := WdRow.free (w := w2) (B := w.heap.size) (g := w.heap.size) (cap := l.length) (l := (wordsL n l).take k ++ List.replicate (l.length - k) 0) (by rw [hlen]; exact hrow) k
      have hst := hrow.store hlen k u
      rw [HSET.out] at hst
      have HST := Lib.hid hst
      have HB2 := Lib.hid (bB hb2 (by simp; omega) (bA (by omega) HBEL.out))
      generalize (((wordsL n l).take k ++ List.replicate (l.length - k) 0).getD k 0) = o0 at d0
      clear hst hrow hlen hb2
      go_wp2
      go_roundw
      case rel => exact ⟨k + 1, by go_num, by omega, HST.out, bS (Nat.le_refl _) HB2.out, by simp; omega⟩
      case measure => simp [intOf] <;> omega
    · obtain rfl : k = l.length := by omega
      have HR : Hid (WdRow wr w.heap.size (.slice (some ⟨w.heap.size, 0, none⟩) l.length l.length) (wordsL n l)) := Lib.hid (by
        have e : (wordsL n l).take l.length = wordsL n l := by rw [← HWL.out, List.take_length]
        rw [e] at hrow; simpa using hrow)
      clear hrow hbel
      go_wp2
      go_ret
      exact ⟨_, rfl, HR.out, HBEL.out⟩

/-! What one of the words only has. -/
set_option maxHeartbeats 1000000 in
theorem Wd.alone (ws : List Nat) (v : Value) (w : World) (h : WdIn w v ws) :
    Calls Try.prog 69 #[v] w fun e w' => e = .returned (.int .u64 (aloneW ws : Int)) ∧ w = w' := by
  obtain ⟨a, cap, rfl, hl, _, _, hbd, hrd⟩ := h
  have HRD := Lib.hid hrd
  have HBD := Lib.hid hbd
  clear hrd hbd
  go_enter Try.func69, Try.ntmps69
  go_wp2
  go_loop [3, 4, 6, 9] (fun s t _ i => ∃ k : Nat, i = .int .i64 (k : Int) ∧ k ≤ ws.length ∧ s = .int .u64 ((twoW ws k).1 : Int) ∧ t = .int .u64 ((twoW ws k).2 : Int)) (fun _ _ _ i => ws.length - (intOf i).toNat)
  case atStart => exact ⟨0, rfl, by omega, rfl, rfl⟩
  case round =>
    obtain ⟨k, rfl, hk, rfl, rfl⟩ := hrel
    obtain ⟨b1, b2⟩ := two_bound HBD.out k
    by_cases hlt : k < ws.length
    · obtain ⟨b, off, rfl, _, hcl⟩ := HRD.out (by omega)
      have hc := hcl k hlt
      have hkz : (k : Int) < (ws.length : Int) := by omega
      have hwb := HBD.out k
      have h1 := andU64 (twoW ws k).1 (ws.getD k 0) (by omega) (by omega)
      have hlt2 : ((((twoW ws k).1 &&& ws.getD k 0 : Nat)) : Int) ≤ 4294967295 := by
        have : (twoW ws k).1 &&& ws.getD k 0 ≤ (twoW ws k).1 := Nat.and_le_left
        omega
      have h2 := orU64 (twoW ws k).2 ((twoW ws k).1 &&& ws.getD k 0) (by omega) (by omega)
      have h3 := orU64 (twoW ws k).1 (ws.getD k 0) (by omega) (by omega)
      have H2 : Hid (((twoW ws k).2 ||| ((twoW ws k).1 &&& ws.getD k 0)) = (twoW ws (k + 1)).2) := Lib.hid rfl
      have H3 : Hid (((twoW ws k).1 ||| ws.getD k 0) = (twoW ws (k + 1)).1) := Lib.hid rfl
      clear hcl hlt
      generalize (twoW ws k).1 = s at *
      generalize (twoW ws k).2 = t at *
      generalize ws.getD k 0 = u at *
      go_wp2
      go_round
      case rel => exact ⟨k + 1, by go_num, by omega, by rw [← H3.out], by rw [← H2.out]⟩
      case measure => simp [intOf] <;> omega
    · obtain rfl : k = ws.length := by omega
      have HA := Lib.hid (andnotU64 (twoW ws ws.length).1 (twoW ws ws.length).2 b1 b2)
      go_wp2
      go_ret
      exact ⟨ret_int (by rw [HA.out]; rfl), rfl⟩

end Go.Proofs.Ytkamopckpmiioaa
