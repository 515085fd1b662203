/-
  The laws' functions on lists of terms: compared, marked, held, copied, counted.
-/
import Derived.Test.YtlmhdocfdpbhmaaTrmR
import Derived.Deep.RegionHeld3
import Derived.Deep.DeepCutAuto
import Derived.Deep.DrawnRows

namespace Go.Proofs.Ytlmhdocfdpbhmaa
open Go.RowKit Plain
set_option linter.unusedVariables false

/-- The marks k, k+1, .., two a term. -/
def Plain.marks2 (k n : Nat) : List Ti := (List.range n).map fun i => (((k + 2 * i : Nat) : Int), ((k + 2 * i + 1 : Nat) : Int))
theorem marks2_length (k n : Nat) : (marks2 k n).length = n := by simp [marks2]
theorem marks2_getD (k n j : Nat) (h : j < n) : (marks2 k n).getD j (0, 0) = (((k + 2 * j : Nat) : Int), ((k + 2 * j + 1 : Nat) : Int)) := by
  simp [marks2, List.getD_eq_getElem?_getD, h]
theorem marks2_bound (k n : Nat) (h : (k + 2 * n : Int) ≤ 4000000) : Small2 (marks2 k n) := by
  intro x hx
  simp only [marks2, List.mem_map, List.mem_range] at hx
  obtain ⟨i, hi, rfl⟩ := hx
  dsimp only
  omega
theorem marks2_set (k j : Nat) (l : List Ti) (h : j < l.length) : (marks2 k j ++ l.drop j).set j (((k + 2 * j : Nat) : Int), ((k + 2 * j + 1 : Nat) : Int)) = marks2 k (j + 1) ++ l.drop (j + 1) := by
  rw [List.set_append_right _ _ (by rw [marks2_length]; exact Nat.le_refl _), marks2_length, Nat.sub_self, List.drop_eq_getElem_cons h, List.set_cons_zero]
  simp [marks2, List.range_succ]
theorem marks2_len (k j : Nat) (l : List Ti) (h : j ≤ l.length) : (marks2 k j ++ l.drop j).length = l.length := by
  rw [List.length_append, marks2_length, List.length_drop]; omega

/-- What markTermS leaves. -/
def Marked2 (B : Nat) (v : Value) (k n : Nat) (w : World) (e : Ending) (w' : World) : Prop :=
  e = .returned (.int .i64 ((k + 2 * n : Nat) : Int)) ∧ TmRow w' B v (marks2 k n) ∧ w.grownBy w' v.ownBlock

theorem grown_more {w w1 w2 : World} {r : Option Nat} (h1 : w.grownBy w1 r) (h2 : w1.grownBy w2 r) : w.grownBy w2 r :=
  ⟨h2.os.trans h1.os, h2.tape.trans h1.tape, h2.output.trans h1.output, Nat.le_trans h1.size h2.size, fun i hi hne => (h2.block i (Nat.lt_of_lt_of_le hi h1.size) hne).trans (h1.block i hi hne)⟩

end Go.Proofs.Ytlmhdocfdpbhmaa
