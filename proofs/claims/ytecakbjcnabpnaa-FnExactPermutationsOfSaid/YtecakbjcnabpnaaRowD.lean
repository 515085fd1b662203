/-
  Lists of ints appended to rows of the call's own, inside a region that draws its order.
-/
import Derived.Test.YtecakbjcnabpnaaRowB
import Derived.Deep.RegionLaw
namespace Go.Proofs.Ytecakbjcnabpnaa
open Go.RowKit Plain
set_option linter.unusedVariables false

/-- A row of ints of the call's own that is not nil: block, capacity, numbers. -/
def RowAt (w : World) (B g cap : Nat) (l : List Int) : Prop := IntRow w B (.slice (some ⟨g, 0, none⟩) l.length cap) l ∧ l.length ≤ cap
theorem RowAt.cell {w : World} {B g cap : Nat} {l : List Int} (h : RowAt w B g cap l) (j : Nat) (hj : j < l.length) : w.cell? ⟨g, j, none⟩ = some (.int .i64 (l.getD j 0)) := h.1.cell j hj
theorem RowAt.lt {w : World} {B g cap : Nat} {l : List Int} (h : RowAt w B g cap l) : B ≤ g ∧ g < w.heap.size := h.1.lt g rfl
theorem RowAt.below {w w' : World} {B g cap : Nat} {l : List Int} (h : RowAt w B g cap l) (hb : Below w.heap.size w w') : RowAt w' B g cap l := ⟨h.1.below hb, h.2⟩
theorem rowLit (w : World) (B g : Nat) (l : List Int) (hg : g = w.heap.size) (hB : B ≤ g) (hl : l.length ≤ 1000) : RowAt (w.alloc (.cells (l.map (Value.int .i64)).toArray 3)) B g l.length l := by
  subst hg
  refine ⟨?_, Nat.le_refl _⟩
  have h := World.ownsRow_lit (e := 3) (size := 1) (base := B) w (l.map (Value.int .i64)).toArray l.length hB (by unfold maxLen; omega) (by simp)
  unfold IntRow
  simpa [intsV] using h

theorem step_ints {ops : Array Oper} {o : Oper} {a : Act} {K : Act → World → Prop} {Q : Exit → Act → World → Prop} {E : Prop} (hgd : o.guard = none) (s x : Operand)
    (ho : o.op = .call { callee := .builtin .append, args := #[s, x], argTypes := #[34, 34] })
    (B : Nat) (W0 wr : World) (g cap n m r : Nat) (l news : List Int) (sb so sc : Nat) (hown : RowAt wr B g cap l) (hn : l.length = n) (hm : news.length = m) (hr : n + m = r) (hb : Below B W0 wr) (hB : B ≤ wr.heap.size) (hlen : r ≤ 1000)
    (hs : a.eval s = .slice (some ⟨g, 0, none⟩) n cap) (hx : a.eval x = .slice (some ⟨sb, so, none⟩) m sc) (hsrc : ∀ j, j < m → wr.cell? ⟨sb, so + j, none⟩ = some (.int .i64 (news.getD j 0)))
    (h : ∀ g' cap' w1, RowAt w1 B g' cap' (l ++ news) → (l ++ news).length = r → Below B W0 w1 → wr.grownBy w1 (some g) → K (a.put o.dst (.slice (some ⟨g', 0, none⟩) r cap')) w1) :
    if Region.wanted o (yielded ops a.tmps) = true then Oper.wp Try.prog o a wr K Q else E := by
  have hw : Region.wanted o (yielded ops a.tmps) = true := by simp [Region.wanted, hgd]
  rw [if_pos hw]
  subst hn hm hr
  obtain ⟨i0, hi, hz0, hz1, hz2⟩ := info_parts Try.infoInt
  refine wp_append_own _ s x 34 ho B 3 i0 (.int .i64 0) 1 8 Try.underlying34 hi hz0 hz1 hz2 rfl (by decide) _ l.length (intsV l) hs hown.1 ⟨sb, so, none⟩ news.length sc (intsV news) hx (by simp [intsV]) ?_ ?_ ?_ ?_ hB ?_
  · intro j u hj
    have hjl : j < news.length := by
      rcases Nat.lt_or_ge j news.length with h1 | h1
      · exact h1
      · simp [intsV, List.getElem?_eq_none h1] at hj
    have hc := hsrc j hjl
    rw [show (⟨sb, so, none⟩ : Addr).add j = ⟨sb, so + j, none⟩ by simp [Addr.add], hc]
    simp [intsV, List.getElem?_eq_getElem hjl] at hj
    subst hj
    simp [List.getD_eq_getElem?_getD, List.getElem?_eq_getElem hjl]
  · intro u hu
    simp only [intsV, List.mem_map] at hu
    obtain ⟨y, _, rfl⟩ := hu
    rfl
  · unfold maxLen; omega
  · omega
  · intro v' w1 h1 h2 h3
    have hlt := hown.lt
    have hlen' : (l ++ news).length = l.length + news.length := List.length_append
    have hrow : IntRow w1 B v' (l ++ news) := by
      unfold IntRow
      rw [hlen', show intsV (l ++ news) = intsV l ++ intsV news by simp [intsV]]
      exact h1
    have hbb : Below B W0 w1 := hb.grown h2 hB (fun j hj => by simp [Value.ownBlock] at hj; omega)
    rcases hrow.2 with ⟨hv, _⟩ | ⟨g', cap', cur, hv, hB', hg', hcap, _⟩
    · have := (h3.1 hv).1
      cases this
    · subst hv
      have hh := h g' cap' w1 ⟨hrow, hcap⟩ hlen' hbb (by simpa [Value.ownBlock] using h2)
      rw [hlen']
      exact hh
end Go.Proofs.Ytecakbjcnabpnaa
