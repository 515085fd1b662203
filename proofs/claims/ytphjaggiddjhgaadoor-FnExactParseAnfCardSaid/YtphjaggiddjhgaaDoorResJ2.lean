/-
  Blocks of two cells, written into.
-/
import Derived.Test.YtphjaggiddjhgaaDoorTabA
namespace Go.Proofs.YtphjaggiddjhgaaDoor
open Go.RowKit Plain
set_option linter.unusedVariables false

theorem put0 {w : World} {b : Nat} {x y : Value} {T : TypeId} (h : w.heap[b]? = some (.cells #[x, y] T (0, 0))) (u : Value) : (w.setCell ⟨b, 0, none⟩ u).heap[b]? = some (.cells #[u, y] T (0, 0)) := by
  rw [heap_setCell_same w b 0 _ _ u h]; rfl
theorem put1 {w : World} {b : Nat} {x y : Value} {T : TypeId} (h : w.heap[b]? = some (.cells #[x, y] T (0, 0))) (u : Value) : (w.setCell ⟨b, 1, none⟩ u).heap[b]? = some (.cells #[x, u] T (0, 0)) := by
  rw [heap_setCell_same w b 1 _ _ u h]; rfl
theorem put_other {w : World} {b c j : Nat} {o : Option Obj} (h : w.heap[c]? = o) (hne : b ≠ c) (u : Value) : (w.setCell ⟨b, j, none⟩ u).heap[c]? = o := by
  rw [heap_setCell_other _ ⟨b, j, none⟩ c u (fun e => hne (by simp [e]))]; exact h

end Go.Proofs.YtphjaggiddjhgaaDoor
