/-
  All prime terms, by the model.
-/
import Derived.Test.YtlmhdocfdpbhmaaTrmS

namespace Go.Proofs.Ytlmhdocfdpbhmaa
open Go.RowKit Plain
set_option linter.unusedVariables false

def tiL (l : List Tm) : List Ti := l.map fun t => ((t.1 : Int), (t.2 : Int))
theorem tiL_snoc (l : List Tm) (m v : Nat) : tiL (l ++ [(m, v)]) = tiL l ++ [((m : Int), (v : Int))] := by simp [tiL]
theorem tiL_len (l : List Tm) : (tiL l).length = l.length := by simp [tiL]
theorem tiL_getD (l : List Tm) (j : Nat) (hj : j < l.length) : (tiL l).getD j (0, 0) = (((l.getD j (0, 0)).1 : Int), ((l.getD j (0, 0)).2 : Int)) := by
  simp [tiL, List.getD_eq_getElem?_getD, hj]
theorem tiL_small {l : List Tm} (h : ∀ t ∈ l, t.1 ≤ 31 ∧ t.2 ≤ 31) : Small2 (tiL l) := by
  intro t ht
  simp only [tiL, List.mem_map] at ht
  obtain ⟨u, hu, rfl⟩ := ht
  have := h u hu
  dsimp only
  omega
theorem prime_small {n a : Nat} (hn : n ≤ 5) : ∀ t ∈ primesL n a, t.1 ≤ 31 ∧ t.2 ≤ 31 := by
  intro t ht
  have := (mem_primes.1 ht).1
  have := tm_le hn this.1 this.2
  omega
theorem tmLit0 (w : World) (B g : Nat) (hg : g = w.heap.size) (hB : B ≤ g) : TmRow (w.alloc (.cells #[] 46)) B (.slice (some ⟨g, 0, none⟩) 0 0) [] := by
  subst hg
  have h := World.ownsRow_lit (e := 46) (size := 2) (base := B) w #[] 0 hB (by unfold maxLen; omega) (by simp)
  simpa [TmRow, tmsV] using h

end Go.Proofs.Ytlmhdocfdpbhmaa
