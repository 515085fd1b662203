/-
  PermutationsOf of the model: lists of lists that are joined.
-/
import Derived.Test.YtecakbjcnabpnaaClsT
namespace Go.Proofs.Ytecakbjcnabpnaa
open Go.RowKit Plain
set_option linter.unusedVariables false

/-- A list of lists in a row of the call's own; the lists lie anywhere. -/
def RowsIn (w : World) (B : Nat) (v : Value) (L : List (List Int)) : Prop :=
  (∃ g cap, v = .slice (some ⟨g, 0, none⟩) L.length cap) ∧ ∃ us : List Value, us.length = L.length ∧ SlRow w B v us ∧ ∀ j, j < L.length → IntRow w 0 (us.getD j nilS) (L.getD j [])
theorem RowsIn.below {w w' : World} {B : Nat} {v : Value} {L : List (List Int)} (h : RowsIn w B v L) (hb : Below w.heap.size w w') : RowsIn w' B v L := by
  obtain ⟨h0, us, h1, h2, h3⟩ := h
  exact ⟨h0, us, h1, h2.kept (grownNone hb) (by cases hv : v.ownBlock <;> simp), fun j hj => (h3 j hj).below hb⟩
theorem RowsIn.base {w : World} {B C : Nat} {v : Value} {L : List (List Int)} (h : RowsIn w B v L) (hC : C ≤ B) : RowsIn w C v L := by
  obtain ⟨h0, us, h1, h2, h3⟩ := h
  exact ⟨h0, us, h1, h2.base hC, h3⟩
theorem RowsIn.rd {w : World} {B : Nat} {v : Value} {L : List (List Int)} (h : RowsIn w B v L) (hs : Small L) : RowsRd w v L := by
  obtain ⟨h0, us, h1, h2, h3⟩ := h
  exact h2.rd h1 hs.1 fun j hj => (h3 j hj).ints (by have := (hs.2 _ (getD_mem' (d := []) hj)).1; omega) (hs.2 _ (getD_mem' hj)).2
theorem RowsIn.empty {w : World} {B g : Nat} (hg : g = w.heap.size) (hB : B ≤ g) : RowsIn (w.alloc (.cells #[] 34)) B (.slice (some ⟨g, 0, none⟩) 0 0) [] := by
  subst hg
  exact ⟨⟨_, 0, rfl⟩, [], rfl, World.ownsRow_lit (e := 34) (size := 1) (base := B) w #[] 0 hB (by unfold maxLen; omega) rfl, fun j hj => absurd hj (by simp)⟩
theorem RowsIn.one {w : World} {B g : Nat} {ad : Option Addr} {len cap : Nat} {l : List Int} (hg : g = w.heap.size) (hB : B ≤ g) (hs : IntRow w 0 (.slice ad len cap) l) :
    RowsIn (w.alloc (.cells #[.slice ad len cap] 34)) B (.slice (some ⟨g, 0, none⟩) 1 1) [l] := by
  subst hg
  refine ⟨⟨_, 1, rfl⟩, [.slice ad len cap], rfl, ?_, fun j hj => ?_⟩
  · exact World.ownsRow_lit (e := 34) (size := 1) (base := B) w #[.slice ad len cap] 1 hB (by unfold maxLen; omega) rfl
  · obtain rfl : j = 0 := by simp at hj; omega
    exact hs.alloc _
theorem getD_app {α : Type} (l m : List α) (d : α) (j : Nat) : (j < l.length ∧ (l ++ m).getD j d = l.getD j d) ∨ (l.length ≤ j ∧ (l ++ m).getD j d = m.getD (j - l.length) d) := by
  rcases Nat.lt_or_ge j l.length with h | h
  · exact .inl ⟨h, by simp [List.getD_eq_getElem?_getD, List.getElem?_append_left h]⟩
  · exact .inr ⟨h, by simp [List.getD_eq_getElem?_getD, List.getElem?_append_right h]⟩

/-- The lists of a list of lists are appended to another. -/
theorem wp_rows {ops : Array Oper} {rest : List Oper} {o : Oper} {a : Act} {Q : Exit → Act → World → Prop} (hgd : o.guard = none) (s x : Operand)
    (ho : o.op = .call { callee := .builtin .append, args := #[s, x], argTypes := #[54, 54] })
    (B C : Nat) (w wr : World) (v u : Value) (L M : List (List Int)) (hown : RowsIn wr B v L) (hu : RowsIn wr C u M) (hb : Below B w wr) (hB : B ≤ wr.heap.size) (hlen : L.length ≤ 10000) (hlen2 : M.length ≤ 10000)
    (hs : a.eval s = v) (hx : a.eval x = u)
    (h : ∀ v' w1, RowsIn w1 B v' (L ++ M) → Below B w w1 → wpList Try.prog ops Q rest (a.put o.dst v') w1) :
    wpList Try.prog ops Q (o :: rest) a wr := by
  obtain ⟨⟨g, cap, rfl⟩, us, h1, h2, h3⟩ := hown
  obtain ⟨⟨g2, cap2, rfl⟩, us2, k1, k2, k3⟩ := hu
  obtain ⟨i0, hi, hz0, hz1, hz2⟩ := info_parts Try.infoSl
  refine wpList_append_own _ hgd s x 54 ho B 34 i0 (.slice none 0 0) 1 24 Try.underlying54 hi hz0 hz1 hz2 rfl (by decide) _ us.length us hs h2 ⟨g2, 0, none⟩ M.length cap2 us2 hx (by omega) ?_ ?_ ?_ ?_ hB ?_
  · intro j u hj
    have hj2 : j < us2.length := by
      rcases Nat.lt_or_ge j us2.length with h | h
      · exact h
      · rw [List.getElem?_eq_none h] at hj; cases hj
    have hc := World.ownsRow.cellAt (k1 ▸ k2 : SlRow wr C (.slice (some ⟨g2, 0, none⟩) us2.length cap2) us2) j (by omega)
    rw [show (⟨g2, 0, none⟩ : Addr).add j = ⟨g2, j, none⟩ by simp [Addr.add]; omega, hc, hj]
  · intro u hu
    obtain ⟨j, hj, rfl⟩ := List.mem_iff_getElem.1 hu
    have hr := k3 j (by omega)
    rw [List.getD_eq_getElem?_getD, List.getElem?_eq_getElem hj] at hr
    rcases hr.shape with ⟨e, _⟩ | ⟨_, _, e, _⟩
    · simp only [Option.getD_some] at e; rw [e]; rfl
    · simp only [Option.getD_some] at e; rw [e]; rfl
  · unfold maxLen; omega
  · omega
  · intro v' w1 g1 hg h4
    have hap : ∀ (v : Value) (l : List Int), IntRow wr 0 v l → IntRow w1 0 v l := fun v l hv => hv.kept hg (apart h2 hv)
    refine h v' w1 ⟨?_, us ++ us2, by simp [h1, k1], ?_, ?_⟩ (hb.grown hg hB (fun j hj => (h2.lt j hj).1))
    · rcases g1.2 with ⟨e, _⟩ | ⟨g', cap', _, e, _⟩
      · cases (h4.1 e).1
      · exact ⟨g', cap', by rw [e, List.length_append, h1]⟩
    · unfold SlRow
      rw [List.length_append, k1]
      exact g1
    · intro j hj
      rw [List.length_append] at hj
      rcases getD_app L M [] j with ⟨q1, q2⟩ | ⟨q1, q2⟩
      · rcases getD_app us us2 nilS j with ⟨p1, p2⟩ | ⟨p1, p2⟩
        · rw [q2, p2]; exact hap _ _ (h3 j q1)
        · omega
      · rcases getD_app us us2 nilS j with ⟨p1, p2⟩ | ⟨p1, p2⟩
        · omega
        · rw [q2, p2, h1]; exact hap _ _ (k3 _ (by omega))

/-- Ints that are read are appended to a row of ints of the call's own. -/
theorem wp_copy {ops : Array Oper} {rest : List Oper} {o : Oper} {a : Act} {Q : Exit → Act → World → Prop} (hgd : o.guard = none) (s x : Operand)
    (ho : o.op = .call { callee := .builtin .append, args := #[s, x], argTypes := #[34, 34] })
    (B C : Nat) (w wr : World) (v : Value) (l news : List Int) (g cap : Nat) (hown : IntRow wr B v l) (hu : IntRow wr C (.slice (some ⟨g, 0, none⟩) news.length cap) news) (hb : Below B w wr) (hB : B ≤ wr.heap.size) (hlen : l.length ≤ 10000) (hlen2 : news.length ≤ 10000)
    (hs : a.eval s = v) (hx : a.eval x = .slice (some ⟨g, 0, none⟩) news.length cap)
    (h : ∀ v' w1, IntRow w1 B v' (l ++ news) → Below B w w1 → wpList Try.prog ops Q rest (a.put o.dst v') w1) :
    wpList Try.prog ops Q (o :: rest) a wr := by
  obtain ⟨i0, hi, hz0, hz1, hz2⟩ := info_parts Try.infoInt
  refine wpList_append_own _ hgd s x 34 ho B 3 i0 (.int .i64 0) 1 8 Try.underlying34 hi hz0 hz1 hz2 rfl (by decide) _ l.length (intsV l) hs hown ⟨g, 0, none⟩ news.length cap (intsV news) hx (by simp [intsV]) ?_ ?_ ?_ ?_ hB ?_
  · intro j u hj
    have hj2 : j < news.length := by
      rcases Nat.lt_or_ge j news.length with h | h
      · exact h
      · simp [intsV, List.getElem?_eq_none h] at hj
    have hc := World.ownsRow.cellAt hu j (by omega)
    rw [show (⟨g, 0, none⟩ : Addr).add j = ⟨g, j, none⟩ by simp [Addr.add]; omega, hc, hj]
  · intro u hu
    simp only [intsV, List.mem_map] at hu
    obtain ⟨y, _, rfl⟩ := hu
    rfl
  · unfold maxLen; omega
  · omega
  · intro v' w1 g1 hg _
    refine h v' w1 ?_ (hb.grown hg hB (fun j hj => (World.ownsRow.lt hown j hj).1))
    unfold IntRow
    rw [List.length_append, show intsV (l ++ news) = intsV l ++ intsV news by simp [intsV]]
    exact g1
end Go.Proofs.Ytecakbjcnabpnaa
