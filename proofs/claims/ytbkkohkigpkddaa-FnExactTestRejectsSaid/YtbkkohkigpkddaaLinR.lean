/-
  Chapter 14: rows of sums of variables that a call made itself.
-/
import Derived.Test.YtbkkohkigpkddaaRowB
import Derived.Lib.FrozenHead

namespace Go.Proofs.Ytbkkohkigpkddaa
open Go.RowKit Plain
set_option linter.unusedVariables false

theorem Try.infoSum : (Try.prog.info? 43).map (fun i => (i.zero, i.size, i.bytes)) = some (some (.agg #[.int .i64 0, .int .i64 0]), 2, 16) := by kernel_rfl

/-- A sum: a set and a constant. -/
abbrev Plain.Sm := Int × Int
def smsV (l : List Sm) : List Value := l.flatMap fun t => [Value.int .i64 t.1, Value.int .i64 t.2]
theorem smsV_snoc (l : List Sm) (t : Sm) : smsV (l ++ [t]) = smsV l ++ [.int .i64 t.1, .int .i64 t.2] := by simp [smsV]
theorem smsV_len (l : List Sm) : (smsV l).length = l.length * 2 := by
  induction l with
  | nil => rfl
  | cons t l ih =>
    show (Value.int .i64 t.1 :: Value.int .i64 t.2 :: smsV l).length = _
    rw [List.length_cons, List.length_cons, ih, List.length_cons]; omega
theorem smsV_get (l : List Sm) : ∀ j, j < l.length → (smsV l)[j * 2]? = some (.int .i64 (l.getD j (0, 0)).1) ∧ (smsV l)[j * 2 + 1]? = some (.int .i64 (l.getD j (0, 0)).2) := by
  induction l with
  | nil => intro j hj; exact absurd hj (by simp)
  | cons t l ih =>
    intro j hj
    have e : smsV (t :: l) = Value.int .i64 t.1 :: Value.int .i64 t.2 :: smsV l := rfl
    rw [e]
    cases j with
    | zero => exact ⟨rfl, rfl⟩
    | succ j =>
      have h := ih j (by simpa using hj)
      rw [show (j + 1) * 2 = j * 2 + 1 + 1 by omega, List.getElem?_cons_succ, List.getElem?_cons_succ, List.getElem?_cons_succ, List.getElem?_cons_succ]
      exact h

def SmRow (w : World) (B : Nat) (v : Value) (l : List Sm) : Prop := w.ownsRow B 43 2 v l.length (smsV l)
theorem smNil (w : World) (B : Nat) : SmRow w B (.slice none 0 0) [] := ⟨by simp [smsV], .inl ⟨rfl, rfl⟩⟩
theorem SmRow.kept {w w' : World} {B : Nat} {v : Value} {l : List Sm} {row : Option Nat} (h : SmRow w B v l) (hg : w.grownBy w' row) (hne : v.ownBlock = none ∨ v.ownBlock ≠ row) : SmRow w' B v l := World.ownsRow.kept h hg hne
theorem SmRow.below {w w' : World} {B : Nat} {v : Value} {l : List Sm} (h : SmRow w B v l) (hb : Below w.heap.size w w') : SmRow w' B v l :=
  World.ownsRow.kept h (grownNone hb) (by cases hv : v.ownBlock <;> simp)
theorem SmRow.lt {w : World} {B : Nat} {v : Value} {l : List Sm} (h : SmRow w B v l) : ∀ k, v.ownBlock = some k → B ≤ k ∧ k < w.heap.size := World.ownsRow.lt h
theorem SmRow.alloc {w : World} {B : Nat} {v : Value} {l : List Sm} (h : SmRow w B v l) (o : Obj) : SmRow (w.alloc o) B v l := World.ownsRow.alloc h o
theorem SmRow.base {w : World} {B C : Nat} {v : Value} {l : List Sm} (h : SmRow w B v l) (hC : C ≤ B) : SmRow w C v l := by
  refine ⟨h.1, ?_⟩
  rcases h.2 with hn | ⟨g, cap, cur, rfl, hb, rest⟩
  · exact .inl hn
  · exact .inr ⟨g, cap, cur, rfl, by omega, rest⟩
theorem SmRow.shape {w : World} {B : Nat} {v : Value} {l : List Sm} (h : SmRow w B v l) : (v = .slice none 0 0 ∧ l = []) ∨ ∃ g cap, v = .slice (some ⟨g, 0, none⟩) l.length cap ∧ B ≤ g ∧ g < w.heap.size ∧ l.length ≤ cap ∧ cap ≤ maxLen := by
  rcases h.2 with ⟨rfl, hn⟩ | ⟨g, cap, cur, rfl, hb, hg, hc, hm, _⟩
  · exact .inl ⟨rfl, List.eq_nil_of_length_eq_zero hn⟩
  · exact .inr ⟨g, cap, rfl, hb, (Array.getElem?_eq_some_iff.1 hg).1, hc, hm⟩
theorem SmRow.cell {w : World} {B g cap : Nat} {l : List Sm} (h : SmRow w B (.slice (some ⟨g, 0, none⟩) l.length cap) l) (j : Nat) (hj : j < l.length) :
    w.cell? ⟨g, j * 2, none⟩ = some (.int .i64 (l.getD j (0, 0)).1) ∧ w.cell? ⟨g, j * 2 + 1, none⟩ = some (.int .i64 (l.getD j (0, 0)).2) := by
  unfold SmRow at h
  rw [World.ownsRow.cellAt h (j * 2) (by omega), World.ownsRow.cellAt h (j * 2 + 1) (by omega)]
  exact smsV_get l j hj
theorem SmRow.free {w : World} {B g cap : Nat} {l : List Sm} (h : SmRow w B (.slice (some ⟨g, 0, none⟩) l.length cap) l) (j : Nat) : w.frozen? ⟨g, j, none⟩ = false := by
  unfold SmRow at h
  exact World.ownsRow.frozenAt h j

/-- Sums are appended to a row of sums of the call's own, from wherever they lie. -/
theorem wp_sums {ops : Array Oper} {rest : List Oper} {o : Oper} {a : Act} {Q : Exit → Act → World → Prop} (hgd : o.guard = none) (s x : Operand)
    (ho : o.op = .call { callee := .builtin .append, args := #[s, x], argTypes := #[51, 51] })
    (B : Nat) (w wr : World) (v : Value) (l news : List Sm) (sb so m sc : Nat) (hown : SmRow wr B v l) (hb : Below B w wr) (hB : B ≤ wr.heap.size) (hm : news.length = m) (hlen : l.length + m ≤ 10000000)
    (hs : a.eval s = v) (hx : a.eval x = .slice (some ⟨sb, so, none⟩) m sc)
    (hsrc : ∀ j, j < m → wr.cell? ⟨sb, so + j * 2, none⟩ = some (.int .i64 (news.getD j (0, 0)).1) ∧ wr.cell? ⟨sb, so + j * 2 + 1, none⟩ = some (.int .i64 (news.getD j (0, 0)).2))
    (h : ∀ v' w1, SmRow w1 B v' (l ++ news) → Below B w w1 → wr.grownBy w1 v.ownBlock → (v' = .slice none 0 0 ↔ v = .slice none 0 0 ∧ m = 0) → wpList Try.prog ops Q rest (a.put o.dst v') w1) :
    wpList Try.prog ops Q (o :: rest) a wr := by
  subst hm
  obtain ⟨i0, hi, hz0, hz1, hz2⟩ := info_parts Try.infoSum
  refine wpList_append_own _ hgd s x 51 ho B 43 i0 (.agg #[.int .i64 0, .int .i64 0]) 2 16 Try.underlying51 hi hz0 hz1 hz2 rfl (by decide) v l.length (smsV l) hs hown ⟨sb, so, none⟩ news.length sc (smsV news) hx (smsV_len news) ?_ ?_ ?_ ?_ hB ?_
  · intro j u hj
    have hjl : j < (smsV news).length := by
      rcases Nat.lt_or_ge j (smsV news).length with h1 | h1
      · exact h1
      · rw [List.getElem?_eq_none h1] at hj; exact absurd hj (by simp)
    rw [smsV_len] at hjl
    have hadd : (⟨sb, so, none⟩ : Addr).add j = ⟨sb, so + j, none⟩ := by unfold Addr.add; split <;> simp_all
    rw [hadd]
    obtain ⟨g1, g2⟩ := smsV_get news (j / 2) (by omega)
    obtain ⟨c1, c2⟩ := hsrc (j / 2) (by omega)
    rcases (show j = (j / 2) * 2 ∨ j = (j / 2) * 2 + 1 by omega) with e | e
    · rw [e, g1] at hj
      rw [e, c1]; exact hj
    · rw [e, g2] at hj
      rw [e, ← Nat.add_assoc, c2]; exact hj
  · intro u hu
    unfold smsV at hu
    rw [List.mem_flatMap] at hu
    obtain ⟨t, _, ht⟩ := hu
    simp only [List.mem_cons, List.not_mem_nil, or_false] at ht
    rcases ht with rfl | rfl <;> rfl
  · unfold maxLen; omega
  · omega
  · intro v' w1 h1 h2 h3
    refine h v' w1 ?_ (hb.grown h2 hB (fun j hj => (World.ownsRow.lt hown j hj).1)) h2 h3
    unfold SmRow
    rw [List.length_append]
    have e : smsV (l ++ news) = smsV l ++ smsV news := by unfold smsV; rw [List.flatMap_append]
    rw [e]
    exact h1

end Go.Proofs.Ytbkkohkigpkddaa
