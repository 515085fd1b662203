/-
  Rows of terms that a call made itself; lists of terms that can be read; the laws' functions on lists of terms.
-/
import Derived.Test.YtlmhdocfdpbhmaaTrmL
import Derived.Test.YtlmhdocfdpbhmaaRowB
import Derived.Lib.FrozenHead

namespace Go.Proofs.Ytlmhdocfdpbhmaa
open Go.RowKit Plain
set_option linter.unusedVariables false

theorem Try.infoTerm : (Try.prog.info? 46).map (fun i => (i.zero, i.size, i.bytes)) = some (some (.agg #[.int .i64 0, .int .i64 0]), 2, 16) := by kernel_rfl

/-- A term of two ints, as the laws have it. -/
abbrev Plain.Ti := Int × Int
def tmsV (l : List Ti) : List Value := l.flatMap fun t => [Value.int .i64 t.1, Value.int .i64 t.2]
theorem tmsV_snoc (l : List Ti) (t : Ti) : tmsV (l ++ [t]) = tmsV l ++ [.int .i64 t.1, .int .i64 t.2] := by simp [tmsV]
theorem tmsV_len (l : List Ti) : (tmsV l).length = l.length * 2 := by
  induction l with
  | nil => rfl
  | cons t l ih =>
    show (Value.int .i64 t.1 :: Value.int .i64 t.2 :: tmsV l).length = _
    rw [List.length_cons, List.length_cons, ih, List.length_cons]; omega
theorem tmsV_get (l : List Ti) : ∀ j, j < l.length → (tmsV l)[j * 2]? = some (.int .i64 (l.getD j (0, 0)).1) ∧ (tmsV l)[j * 2 + 1]? = some (.int .i64 (l.getD j (0, 0)).2) := by
  induction l with
  | nil => intro j hj; exact absurd hj (by simp)
  | cons t l ih =>
    intro j hj
    have e : tmsV (t :: l) = Value.int .i64 t.1 :: Value.int .i64 t.2 :: tmsV l := rfl
    rw [e]
    cases j with
    | zero => exact ⟨rfl, rfl⟩
    | succ j =>
      have h := ih j (by simpa using hj)
      rw [show (j + 1) * 2 = j * 2 + 1 + 1 by omega, List.getElem?_cons_succ, List.getElem?_cons_succ, List.getElem?_cons_succ, List.getElem?_cons_succ]
      exact h
theorem tmsV_set1 (l : List Ti) : ∀ j x, (tmsV l).set (j * 2) (.int .i64 x) = tmsV (l.set j (x, (l.getD j (0, 0)).2)) := by
  induction l with
  | nil => intro j x; simp [tmsV]
  | cons t l ih =>
    intro j x
    have e : ∀ (t : Ti) (l : List Ti), tmsV (t :: l) = Value.int .i64 t.1 :: Value.int .i64 t.2 :: tmsV l := fun _ _ => rfl
    cases j with
    | zero => rfl
    | succ j =>
      rw [e, show (j + 1) * 2 = j * 2 + 1 + 1 by omega, List.set_cons_succ, List.set_cons_succ, ih, List.set_cons_succ, e]
      rfl
theorem tmsV_set2 (l : List Ti) : ∀ j x, (tmsV l).set (j * 2 + 1) (.int .i64 x) = tmsV (l.set j ((l.getD j (0, 0)).1, x)) := by
  induction l with
  | nil => intro j x; simp [tmsV]
  | cons t l ih =>
    intro j x
    have e : ∀ (t : Ti) (l : List Ti), tmsV (t :: l) = Value.int .i64 t.1 :: Value.int .i64 t.2 :: tmsV l := fun _ _ => rfl
    cases j with
    | zero => rfl
    | succ j =>
      rw [e, show (j + 1) * 2 + 1 = j * 2 + 1 + 1 + 1 by omega, List.set_cons_succ, List.set_cons_succ, ih, List.set_cons_succ, e]
      rfl

def TmRow (w : World) (B : Nat) (v : Value) (l : List Ti) : Prop := w.ownsRow B 46 2 v l.length (tmsV l)
theorem tmNil (w : World) (B : Nat) : TmRow w B (.slice none 0 0) [] := ⟨by simp [tmsV], .inl ⟨rfl, rfl⟩⟩
theorem TmRow.kept {w w' : World} {B : Nat} {v : Value} {l : List Ti} {row : Option Nat} (h : TmRow w B v l) (hg : w.grownBy w' row) (hne : v.ownBlock = none ∨ v.ownBlock ≠ row) : TmRow w' B v l := World.ownsRow.kept h hg hne
theorem TmRow.below {w w' : World} {B : Nat} {v : Value} {l : List Ti} (h : TmRow w B v l) (hb : Below w.heap.size w w') : TmRow w' B v l :=
  World.ownsRow.kept h (grownNone hb) (by cases hv : v.ownBlock <;> simp)
theorem TmRow.lt {w : World} {B : Nat} {v : Value} {l : List Ti} (h : TmRow w B v l) : ∀ k, v.ownBlock = some k → B ≤ k ∧ k < w.heap.size := World.ownsRow.lt h
theorem TmRow.alloc {w : World} {B : Nat} {v : Value} {l : List Ti} (h : TmRow w B v l) (o : Obj) : TmRow (w.alloc o) B v l := World.ownsRow.alloc h o
theorem TmRow.base {w : World} {B C : Nat} {v : Value} {l : List Ti} (h : TmRow w B v l) (hC : C ≤ B) : TmRow w C v l := by
  refine ⟨h.1, ?_⟩
  rcases h.2 with hn | ⟨g, cap, cur, rfl, hb, rest⟩
  · exact .inl hn
  · exact .inr ⟨g, cap, cur, rfl, by omega, rest⟩
theorem TmRow.shape {w : World} {B : Nat} {v : Value} {l : List Ti} (h : TmRow w B v l) : (v = .slice none 0 0 ∧ l = []) ∨ ∃ g cap, v = .slice (some ⟨g, 0, none⟩) l.length cap ∧ B ≤ g ∧ g < w.heap.size ∧ l.length ≤ cap ∧ cap ≤ maxLen := by
  rcases h.2 with ⟨rfl, hn⟩ | ⟨g, cap, cur, rfl, hb, hg, hc, hm, _⟩
  · exact .inl ⟨rfl, List.eq_nil_of_length_eq_zero hn⟩
  · exact .inr ⟨g, cap, rfl, hb, (Array.getElem?_eq_some_iff.1 hg).1, hc, hm⟩
theorem TmRow.cell {w : World} {B g cap : Nat} {l : List Ti} (h : TmRow w B (.slice (some ⟨g, 0, none⟩) l.length cap) l) (j : Nat) (hj : j < l.length) :
    w.cell? ⟨g, j * 2, none⟩ = some (.int .i64 (l.getD j (0, 0)).1) ∧ w.cell? ⟨g, j * 2 + 1, none⟩ = some (.int .i64 (l.getD j (0, 0)).2) := by
  unfold TmRow at h
  rw [World.ownsRow.cellAt h (j * 2) (by omega), World.ownsRow.cellAt h (j * 2 + 1) (by omega)]
  exact tmsV_get l j hj
theorem TmRow.free {w : World} {B g cap : Nat} {l : List Ti} (h : TmRow w B (.slice (some ⟨g, 0, none⟩) l.length cap) l) (j : Nat) : w.frozen? ⟨g, j, none⟩ = false := by
  unfold TmRow at h
  exact World.ownsRow.frozenAt h j
theorem TmRow.store1 {w : World} {B g cap n : Nat} {l : List Ti} (h : TmRow w B (.slice (some ⟨g, 0, none⟩) n cap) l) (hn : l.length = n) (j : Nat) (x : Int) :
    TmRow (w.setCell ⟨g, j * 2, none⟩ (.int .i64 x)) B (.slice (some ⟨g, 0, none⟩) n cap) (l.set j (x, (l.getD j (0, 0)).2)) ∧ w.grownBy (w.setCell ⟨g, j * 2, none⟩ (.int .i64 x)) (some g) := by
  unfold TmRow at h ⊢
  rw [hn] at h
  have h2 := World.ownsRow.stored h (j * 2) (.int .i64 x)
  rw [List.length_set, hn, ← tmsV_set1]
  exact h2
theorem TmRow.store2 {w : World} {B g cap n : Nat} {l : List Ti} (h : TmRow w B (.slice (some ⟨g, 0, none⟩) n cap) l) (hn : l.length = n) (j : Nat) (x : Int) :
    TmRow (w.setCell ⟨g, j * 2 + 1, none⟩ (.int .i64 x)) B (.slice (some ⟨g, 0, none⟩) n cap) (l.set j ((l.getD j (0, 0)).1, x)) ∧ w.grownBy (w.setCell ⟨g, j * 2 + 1, none⟩ (.int .i64 x)) (some g) := by
  unfold TmRow at h ⊢
  rw [hn] at h
  have h2 := World.ownsRow.stored h (j * 2 + 1) (.int .i64 x)
  rw [List.length_set, hn, ← tmsV_set2]
  exact h2

/-- Terms are appended to a row of terms of the call's own, from wherever they lie. -/
theorem wp_terms {ops : Array Oper} {rest : List Oper} {o : Oper} {a : Act} {Q : Exit → Act → World → Prop} (hgd : o.guard = none) (s x : Operand)
    (ho : o.op = .call { callee := .builtin .append, args := #[s, x], argTypes := #[42, 42] })
    (B : Nat) (w wr : World) (v : Value) (l news : List Ti) (sb so m sc : Nat) (hown : TmRow wr B v l) (hb : Below B w wr) (hB : B ≤ wr.heap.size) (hm : news.length = m) (hlen : l.length + m ≤ 10000000)
    (hs : a.eval s = v) (hx : a.eval x = .slice (some ⟨sb, so, none⟩) m sc)
    (hsrc : ∀ j, j < m → wr.cell? ⟨sb, so + j * 2, none⟩ = some (.int .i64 (news.getD j (0, 0)).1) ∧ wr.cell? ⟨sb, so + j * 2 + 1, none⟩ = some (.int .i64 (news.getD j (0, 0)).2))
    (h : ∀ v' w1, TmRow w1 B v' (l ++ news) → Below B w w1 → wr.grownBy w1 v.ownBlock → (v' = .slice none 0 0 ↔ v = .slice none 0 0 ∧ m = 0) → wpList Try.prog ops Q rest (a.put o.dst v') w1) :
    wpList Try.prog ops Q (o :: rest) a wr := by
  subst hm
  obtain ⟨i0, hi, hz0, hz1, hz2⟩ := info_parts Try.infoTerm
  refine wpList_append_own _ hgd s x 42 ho B 46 i0 (.agg #[.int .i64 0, .int .i64 0]) 2 16 Try.underlying42 hi hz0 hz1 hz2 rfl (by decide) v l.length (tmsV l) hs hown ⟨sb, so, none⟩ news.length sc (tmsV news) hx (tmsV_len news) ?_ ?_ ?_ ?_ hB ?_
  · intro j u hj
    have hjl : j < (tmsV news).length := by
      rcases Nat.lt_or_ge j (tmsV news).length with h1 | h1
      · exact h1
      · rw [List.getElem?_eq_none h1] at hj; exact absurd hj (by simp)
    rw [tmsV_len] at hjl
    have hadd : (⟨sb, so, none⟩ : Addr).add j = ⟨sb, so + j, none⟩ := by unfold Addr.add; split <;> simp_all
    rw [hadd]
    obtain ⟨g1, g2⟩ := tmsV_get news (j / 2) (by omega)
    obtain ⟨c1, c2⟩ := hsrc (j / 2) (by omega)
    rcases (show j = (j / 2) * 2 ∨ j = (j / 2) * 2 + 1 by omega) with e | e
    · rw [e, g1] at hj
      rw [e, c1]; exact hj
    · rw [e, g2] at hj
      rw [e, ← Nat.add_assoc, c2]; exact hj
  · intro u hu
    unfold tmsV at hu
    rw [List.mem_flatMap] at hu
    obtain ⟨t, _, ht⟩ := hu
    simp only [List.mem_cons, List.not_mem_nil, or_false] at ht
    rcases ht with rfl | rfl <;> rfl
  · unfold maxLen; omega
  · omega
  · intro v' w1 h1 h2 h3
    refine h v' w1 ?_ (hb.grown h2 hB (fun j hj => (World.ownsRow.lt hown j hj).1)) h2 h3
    unfold TmRow
    rw [List.length_append]
    have e : tmsV (l ++ news) = tmsV l ++ tmsV news := by unfold tmsV; rw [List.flatMap_append]
    rw [e]
    exact h1

/-- One term, laid in a block just ahead, is appended to a row of terms of the call's own. -/
theorem wp_term {ops : Array Oper} {rest : List Oper} {o : Oper} {a : Act} {Q : Exit → Act → World → Prop} (hgd : o.guard = none) (s x : Operand)
    (ho : o.op = .call { callee := .builtin .append, args := #[s, x], argTypes := #[42, 42] })
    (B : Nat) (w wr : World) (v : Value) (l : List Ti) (t : Ti) (ob : Obj) (hown : TmRow wr B v l) (hb : Below B w wr) (hB : B ≤ wr.heap.size) (hlen : l.length ≤ 1000000)
    (hs : a.eval s = v) (hx : a.eval x = .slice (some ⟨wr.heap.size, 0, none⟩) 1 1) (hob : ob = .cells #[.int .i64 t.1, .int .i64 t.2] 46)
    (h : ∀ v' w1, TmRow w1 B v' (l ++ [t]) → Below B w w1 → wr.grownBy w1 v.ownBlock → wpList Try.prog ops Q rest (a.put o.dst v') w1) :
    wpList Try.prog ops Q (o :: rest) a (wr.alloc ob) := by
  subst hob
  refine wp_terms hgd s x ho B w _ v l [t] wr.heap.size 0 1 1 (hown.alloc _) (hb.alloc hB _) (by simp; omega) rfl (by omega) hs hx ?_ ?_
  · intro j hj
    obtain rfl : j = 0 := by omega
    exact ⟨World.cell?_alloc_mark wr _ _ _ 0, World.cell?_alloc_mark wr _ _ _ 1⟩
  · intro v' w1 h1 h2 h3 _
    refine h v' w1 h1 h2 ⟨h3.os.trans rfl, h3.tape.trans rfl, h3.output.trans rfl, by have := h3.size; simp at this; omega, fun i hi hne => ?_⟩
    rw [h3.block i (by simp; omega) hne, Below.heap_alloc wr _ i hi]

/-- A list of terms that can be read. -/
def TmsIn (w : World) (v : Value) (l : List Ti) : Prop :=
  ∃ a cap, v = .slice a l.length cap ∧ (l.length : Int) ≤ 2000000 ∧ l.length ≤ cap ∧ (cap : Int) ≤ 9223372036854775807 ∧ (∀ t ∈ l, (-9223372036854775808 ≤ t.1 ∧ t.1 ≤ 9223372036854775807) ∧ -9223372036854775808 ≤ t.2 ∧ t.2 ≤ 9223372036854775807) ∧
    (0 < l.length → ∃ b off, a = some ⟨b, off, none⟩ ∧ b < w.heap.size ∧ ∀ j, j < l.length → w.cell? ⟨b, off + j * 2, none⟩ = some (.int .i64 (l.getD j (0, 0)).1) ∧ w.cell? ⟨b, off + j * 2 + 1, none⟩ = some (.int .i64 (l.getD j (0, 0)).2))
theorem TmsIn.below {w w' : World} {v : Value} {l : List Ti} (h : TmsIn w v l) (hb : Below w.heap.size w w') : TmsIn w' v l := by
  obtain ⟨a, cap, rfl, h1, h1a, h1b, h2, h3⟩ := h
  refine ⟨a, cap, rfl, h1, h1a, h1b, h2, fun h0 => ?_⟩
  obtain ⟨b, off, rfl, hlt, hc⟩ := h3 h0
  exact ⟨b, off, rfl, Nat.lt_of_lt_of_le hlt hb.size, fun j hj => ⟨(hb.cell (p := ⟨b, off + j * 2, none⟩) hlt).trans (hc j hj).1, (hb.cell (p := ⟨b, off + j * 2 + 1, none⟩) hlt).trans (hc j hj).2⟩⟩
theorem TmsIn.kept {w w' : World} {v : Value} {l : List Ti} {row : Option Nat} (h : TmsIn w v l) (hg : w.grownBy w' row) (hne : ∀ k, row = some k → v.ownBlock ≠ some k) : TmsIn w' v l := by
  obtain ⟨a, cap, rfl, h1, h1a, h1b, h2, h3⟩ := h
  refine ⟨a, cap, rfl, h1, h1a, h1b, h2, fun h0 => ?_⟩
  obtain ⟨b, off, rfl, hlt, hc⟩ := h3 h0
  have hb : some b ≠ row := fun e => hne b e.symm rfl
  exact ⟨b, off, rfl, Nat.lt_of_lt_of_le hlt hg.size, fun j hj => ⟨(World.cell?_of_block (a := ⟨b, off + j * 2, none⟩) (hg.block b hlt hb)).trans (hc j hj).1, (World.cell?_of_block (a := ⟨b, off + j * 2 + 1, none⟩) (hg.block b hlt hb)).trans (hc j hj).2⟩⟩
def Small2 (l : List Ti) : Prop := ∀ t ∈ l, (-9223372036854775808 ≤ t.1 ∧ t.1 ≤ 9223372036854775807) ∧ -9223372036854775808 ≤ t.2 ∧ t.2 ≤ 9223372036854775807
theorem TmRow.terms {w : World} {B : Nat} {v : Value} {l : List Ti} (h : TmRow w B v l) (hl : l.length ≤ 2000000) (hx : Small2 l) : TmsIn w v l := by
  rcases h.shape with ⟨rfl, rfl⟩ | ⟨g, cap, rfl, hB, hg, hc, hm⟩
  · exact ⟨none, 0, rfl, by decide, by decide, by decide, hx, fun h => absurd h (by decide)⟩
  · exact ⟨_, cap, rfl, by omega, hc, by unfold maxLen at hm; omega, hx, fun h0 => ⟨g, 0, rfl, hg, fun j hj => by rw [Nat.zero_add]; exact h.cell j hj⟩⟩
theorem getDt {l : List Ti} {j : Nat} (h : j < l.length) : l.getD j (0, 0) ∈ l := by
  rw [List.getD_eq_getElem?_getD, List.getElem?_eq_getElem h]; exact List.getElem_mem h
/-- What is left behind the first j terms. -/
theorem TmsIn.drop {w : World} {b off cap : Nat} {l : List Ti} (h : TmsIn w (.slice (some ⟨b, off, none⟩) l.length cap) l) (j : Nat) (hj : j ≤ l.length) : TmsIn w (.slice (some ⟨b, off + j * 2, none⟩) (l.length - j) (cap - j)) (l.drop j) := by
  obtain ⟨a, cap', e, h1, h1a, h1b, h2, h3⟩ := h
  simp only [Value.slice.injEq, true_and] at e
  obtain ⟨rfl, rfl⟩ := e
  refine ⟨_, cap - j, by rw [List.length_drop], by rw [List.length_drop]; omega, by rw [List.length_drop]; omega, by omega, fun t ht => h2 t (List.mem_of_mem_drop ht), fun h0 => ?_⟩
  rw [List.length_drop] at h0
  obtain ⟨b', off', e, hlt, hc⟩ := h3 (by omega)
  simp only [Option.some.injEq, Addr.mk.injEq, and_true] at e
  obtain ⟨rfl, rfl⟩ := e
  refine ⟨b, off + j * 2, rfl, hlt, fun i hi => ?_⟩
  rw [List.length_drop] at hi
  have e : (l.drop j).getD i (0, 0) = l.getD (j + i) (0, 0) := by simp [List.getD_eq_getElem?_getD]
  rw [e, show off + j * 2 + i * 2 = off + (j + i) * 2 by omega]
  exact hc (j + i) (by omega)

end Go.Proofs.Ytlmhdocfdpbhmaa
