/-
  PermutationsOf of the program.
-/
import Derived.Test.YtecakbjcnabpnaaClsR
import Derived.Test.YtecakbjcnabpnaaClsP
namespace Go.Proofs.Ytecakbjcnabpnaa
open Go.RowKit Plain
set_option linter.unusedVariables false

def Plain.bump (x : Nat) (i : Int) : Int := if i < (x : Int) then i else i + 1
theorem startL_eq (x : Nat) (r : List Int) : startL (x : Int) r = (x : Int) :: r.map (bump x) := rfl
theorem bump_take (x : Nat) (l : List Int) (k : Nat) (h : k < l.length) : (x : Int) :: (l.take (k + 1)).map (bump x) = ((x : Int) :: (l.take k).map (bump x)) ++ [bump x (l.getD k 0)] := by
  rw [List.take_succ_eq_append_getElem h, List.map_append, List.getD_eq_getElem?_getD, List.getElem?_eq_getElem h]
  rfl

set_option maxRecDepth 100000 in
theorem Perm.start (x : Nat) (l : List Int) (ad : Option Addr) (cl cap : Nat) (hx : x ≤ 1000) (hl : l.length ≤ 1000) (hs : ∀ e ∈ l, 0 ≤ e ∧ e ≤ 1000) (w : World) (h : IntsIn w (.slice ad cl cap) l) :
    Calls Try.prog 98 #[.int .i64 x, .slice ad cl cap] w fun e w' => (∃ u, e = .returned u ∧ IntRow w' w.heap.size u (startL x l)) ∧ Below w.heap.size w w' := by
  obtain ⟨a', cap', he, _, _, hrd⟩ := h
  simp only [Value.slice.injEq] at he
  obtain ⟨rfl, rfl, rfl⟩ := he
  have HRD := Lib.hid hrd
  have HS := Lib.hid hs
  have hlz : (l.length : Int) ≤ 1000 := by omega
  have HLN : Hid (l.length ≤ 1000) := Lib.hid hl
  have hxz : (x : Int) ≤ 1000 := by omega
  have HROW := Lib.hid (rowLit w w.heap.size w.heap.size [(x : Int)] rfl (Nat.le_refl _) (by simp)).1
  clear hrd hs hl hx
  go_enter Try.func98, Try.ntmps98
  go_wp2
  go_loopw [5, 7, 12] (fun p _ i wr => ∃ k : Nat, i = .int .i64 (k : Int) ∧ k ≤ l.length ∧ IntRow wr w.heap.size p ((x : Int) :: (l.take k).map (bump x)) ∧ Below w.heap.size w wr) (fun _ _ i _ => l.length - (intOf i).toNat)
  case atStart => exact ⟨0, rfl, by omega, HROW.out, (Below.refl _ _).alloc (Nat.le_refl _) _⟩
  case round =>
    obtain ⟨k, rfl, hk, hrow, hbel⟩ := hrel
    have HBEL := Lib.hid hbel
    have HROW := Lib.hid hrow
    have hsz := hbel.size
    by_cases hlt : k < l.length
    · obtain ⟨b, off, rfl, hbw, hcl⟩ := HRD.out (by omega)
      have hcp : wr.cell? ⟨b, off + k, none⟩ = some (.int .i64 (l.getD k 0)) := (hbel.cell (p := ⟨b, off + k, none⟩) hbw).trans (hcl k hlt)
      have hm := HS.out _ (getD_mem hlt)
      have HT := Lib.hid (bump_take x l k hlt)
      have hkz : (k : Int) < (l.length : Int) := by omega
      have HTL : Hid ((((x : Int) :: (l.take k).map (bump x)).length : Int) ≤ 1001) := Lib.hid (by simp; omega)
      clear hrow hbel hcl
      generalize (x : Int) :: (l.take k).map (bump x) = pre at HROW HT HTL
      by_cases hc : l.getD k 0 < (x : Int)
      · have hb : bump x (l.getD k 0) = l.getD k 0 := by unfold bump; rw [if_pos hc]
        rw [hb] at HT
        clear hb
        generalize l.getD k 0 = y at hcp hc hm HT
        go_wp2_with (first | (at_builtin; go_must (refine wp_int rfl _ _ rfl w.heap.size w wr _ _ y _ HROW.out HBEL.out hsz (by have := HTL.out; omega) rfl rfl rfl ?_; intro v' w1 hrow1 hbel1 hg1)) | fail)
        go_roundw
        case rel => exact ⟨k + 1, by go_num, by omega, by rw [HT.out]; exact hrow1, hbel1⟩
        case measure => simp [intOf] <;> omega
      · have hb : bump x (l.getD k 0) = l.getD k 0 + 1 := by unfold bump; rw [if_neg hc]
        rw [hb] at HT
        clear hb
        generalize l.getD k 0 = y at hcp hc hm HT
        go_wp2_with (first | (at_builtin; go_must (refine wp_int rfl _ _ rfl w.heap.size w wr _ _ (y + 1) _ HROW.out HBEL.out hsz (by have := HTL.out; omega) rfl rfl rfl ?_; intro v' w1 hrow1 hbel1 hg1)) | fail)
        go_roundw
        case rel => exact ⟨k + 1, by go_num, by omega, by rw [HT.out]; exact hrow1, hbel1⟩
        case measure => simp [intOf] <;> omega
    · obtain rfl : k = l.length := by omega
      rw [List.take_length] at HROW
      clear hrow hbel
      go_wp2
      go_ret
      exact ⟨⟨_, rfl, HROW.out⟩, HBEL.out⟩
end Go.Proofs.Ytecakbjcnabpnaa
