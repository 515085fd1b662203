/-
  The laws' copy of a list of ints.
-/
import Derived.Test.YtkdllmobdcahdaaRowB
import Derived.Deep.DeepMust
namespace Go.Proofs.Ytkdllmobdcahdaa
open Go.RowKit Plain
set_option linter.unusedVariables false

theorem IntRow.made {w : World} {B n : Nat} {v : Value} (h : w.ownsRow B 3 1 v n (madeCells (Value.int .i64 0).cells (n * 1)).toList) : IntRow w B v (List.replicate n 0) := by
  have e : (madeCells (Value.int .i64 0).cells (n * 1)).toList = intsV (List.replicate n 0) := by
    show (madeCells #[Value.int .i64 0] (n * 1)).toList = _
    rw [toList_madeCells_one, Nat.mul_one]
    simp [intsV]
  unfold IntRow
  rw [← e, List.length_replicate]
  exact h

/-- A list of ints in new memory. -/
def CopyOut (l : List Int) (w : World) (e : Ending) (w' : World) : Prop := ∃ g, e = .returned (.slice (some ⟨g, 0, none⟩) l.length l.length) ∧ IntRow w' w.heap.size (.slice (some ⟨g, 0, none⟩) l.length l.length) l ∧ Below w.heap.size w w'

theorem copy_set (l : List Int) (k : Nat) (h : k < l.length) : (l.take k ++ List.replicate (l.length - k) 0).set k (l.getD k 0) = l.take (k + 1) ++ List.replicate (l.length - (k + 1)) 0 := by
  have hk : (l.take k).length = k := by rw [List.length_take]; omega
  rw [List.set_append_right _ _ (by omega), hk, Nat.sub_self, show l.length - k = (l.length - (k + 1)) + 1 by omega, List.replicate_succ, List.set_cons_zero, List.take_succ_eq_append_getElem h, List.append_assoc]
  congr 1
  rw [List.getD_eq_getElem?_getD, List.getElem?_eq_getElem h]
  rfl
theorem copy_len (l : List Int) (k : Nat) (h : k ≤ l.length) : (l.take k ++ List.replicate (l.length - k) 0).length = l.length := by
  rw [List.length_append, List.length_take, List.length_replicate]; omega

set_option maxRecDepth 100000 in
set_option maxHeartbeats 1000000 in
theorem Ints.copy (v : Value) (l : List Int) (w : World) (h : IntsIn w v l) :
    Calls Try.prog 47 #[v] w (CopyOut l w) := by
  obtain ⟨a, cap, rfl, hl, _, hrd⟩ := h
  obtain ⟨i0, hi, hz0, hz1, hz2⟩ := info_parts Try.infoInt
  have HRD := Lib.hid hrd
  clear hrd
  go_enter Try.func47, Try.ntmps47
  go_wp2_with (at_make; go_must (refine wpList_make_full _ rfl _ _ 34 rfl w.heap.size 3 i0 (.int .i64 0) 1 Try.underlying34 hi hz0 hz1 _ _ _ _ l.length rfl rfl rfl rfl (by rw [hz2]; omega) (by unfold maxLen; omega) (Nat.le_refl _) ?_; intro w1 hown hgrow))
  have HROW := Lib.hid (IntRow.made hown)
  have HB := Lib.hid ((Below.refl w.heap.size w).grown hgrow (Nat.le_refl _) (fun _ h => by cases h))
  clear hown hgrow hi hz0 hz1 hz2
  go_loopw [4] (fun i wr => ∃ k : Nat, i = .int .i64 (k : Int) ∧ k ≤ l.length ∧ IntRow wr w.heap.size (.slice (some ⟨w.heap.size, 0, none⟩) l.length l.length) (l.take k ++ List.replicate (l.length - k) 0) ∧ Below w.heap.size w wr) (fun i _ => l.length - (intOf i).toNat)
  case atStart => exact ⟨0, rfl, by omega, by simpa using HROW.out, HB.out⟩
  case round =>
    obtain ⟨k, rfl, hk, hrow, hbel⟩ := hrel
    have HBEL := Lib.hid hbel
    by_cases hlt : k < l.length
    · obtain ⟨b, off, rfl, hbw, hcl⟩ := HRD.out (by omega)
      have hcp : wr.cell? ⟨b, off + k, none⟩ = some (.int .i64 (l.getD k 0)) := (hbel.cell (p := ⟨b, off + k, none⟩) hbw).trans (hcl k hlt)
      have hlen := copy_len l k hk
      have hst := hrow.store hlen k (l.getD k 0)
      rw [copy_set l k hlt] at hst
      have HST := Lib.hid hst.1
      have hcell := IntRow.cell (w := wr) (B := w.heap.size) (g := w.heap.size) (cap := l.length) (l := l.take k ++ List.replicate (l.length - k) 0) (by rw [hlen]; exact hrow) k (by rw [hlen]; exact hlt)
      have hfree := IntRow.free (w := wr) (B := w.heap.size) (g := w.heap.size) (cap := l.length) (l := l.take k ++ List.replicate (l.length - k) 0) (by rw [hlen]; exact hrow) k
      generalize (l.take k ++ List.replicate (l.length - k) 0).getD k 0 = old at hcell
      generalize l.getD k 0 = x at hcp HST
      have hkz : (k : Int) < (l.length : Int) := by omega
      clear hst hrow hlen hbel hcl
      go_wp2
      go_roundw
      case rel => exact ⟨k + 1, by go_num, by omega, HST.out, bS (Nat.le_refl _) HBEL.out⟩
      case measure => simp [intOf] <;> omega
    · obtain rfl : k = l.length := by omega
      have HR : Hid (IntRow wr w.heap.size (.slice (some ⟨w.heap.size, 0, none⟩) l.length l.length) l) := Lib.hid (by simpa using hrow)
      clear hrow hbel
      go_wp2
      go_ret
      exact ⟨_, rfl, HR.out, HBEL.out⟩
end Go.Proofs.Ytkdllmobdcahdaa
