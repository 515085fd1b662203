/-
  Rows of ints that a call made itself; lists of ints that can be read; the laws' functions on lists of ints.
-/
import Derived.Test.YtecakbjcnabpnaaTabA
import Derived.OneCell
import Derived.BigQuiet
import Derived.Deep.QuietTactic
import Derived.Laws.OwnMore
namespace Go.Proofs.Ytecakbjcnabpnaa
open Go.RowKit Plain
set_option linter.unusedVariables false

theorem Try.infoInt : (Try.prog.info? 3).map (fun i => (i.zero, i.size, i.bytes)) = some (some (.int .i64 0), 1, 8) := by kernel_rfl

def intsV (l : List Int) : List Value := l.map (fun x => Value.int .i64 x)
def IntRow (w : World) (B : Nat) (v : Value) (l : List Int) : Prop := w.ownsRow B 3 1 v l.length (intsV l)
theorem intsV_snoc (l : List Int) (x : Int) : intsV (l ++ [x]) = intsV l ++ [.int .i64 x] := by simp [intsV]

theorem grownNone {w w' : World} (hb : Below w.heap.size w w') : w.grownBy w' none := ⟨hb.os, hb.tape, hb.output, hb.size, fun i hi _ => hb.block i hi⟩
theorem IntRow.kept {w w' : World} {B : Nat} {v : Value} {l : List Int} {row : Option Nat} (h : IntRow w B v l) (hg : w.grownBy w' row) (hne : v.ownBlock = none ∨ v.ownBlock ≠ row) : IntRow w' B v l := World.ownsRow.kept h hg hne
theorem IntRow.below {w w' : World} {B : Nat} {v : Value} {l : List Int} (h : IntRow w B v l) (hb : Below w.heap.size w w') : IntRow w' B v l :=
  World.ownsRow.kept h (grownNone hb) (by cases hv : v.ownBlock <;> simp)
theorem IntRow.lt {w : World} {B : Nat} {v : Value} {l : List Int} (h : IntRow w B v l) : ∀ k, v.ownBlock = some k → B ≤ k ∧ k < w.heap.size := World.ownsRow.lt h
theorem IntRow.alloc {w : World} {B : Nat} {v : Value} {l : List Int} (h : IntRow w B v l) (o : Obj) : IntRow (w.alloc o) B v l := World.ownsRow.alloc h o
theorem IntRow.base {w : World} {B C : Nat} {v : Value} {l : List Int} (h : IntRow w B v l) (hC : C ≤ B) : IntRow w C v l := by
  refine ⟨h.1, ?_⟩
  rcases h.2 with hn | ⟨g, cap, cur, rfl, hb, rest⟩
  · exact .inl hn
  · exact .inr ⟨g, cap, cur, rfl, by omega, rest⟩
theorem IntRow.shape {w : World} {B : Nat} {v : Value} {l : List Int} (h : IntRow w B v l) : (v = .slice none 0 0 ∧ l = []) ∨ ∃ g cap, v = .slice (some ⟨g, 0, none⟩) l.length cap ∧ B ≤ g ∧ g < w.heap.size := by
  rcases h.2 with ⟨rfl, hn⟩ | ⟨g, cap, cur, rfl, hb, hg, _⟩
  · exact .inl ⟨rfl, List.eq_nil_of_length_eq_zero hn⟩
  · exact .inr ⟨g, cap, rfl, hb, (Array.getElem?_eq_some_iff.1 hg).1⟩
theorem IntRow.cell {w : World} {B g cap : Nat} {l : List Int} (h : IntRow w B (.slice (some ⟨g, 0, none⟩) l.length cap) l) (j : Nat) (hj : j < l.length) :
    w.cell? ⟨g, j, none⟩ = some (.int .i64 (l.getD j 0)) := by
  unfold IntRow at h
  rw [World.ownsRow.cellAt h j (by omega)]
  simp [intsV, hj]
theorem IntRow.free {w : World} {B g cap : Nat} {l : List Int} (h : IntRow w B (.slice (some ⟨g, 0, none⟩) l.length cap) l) (j : Nat) : w.frozen? ⟨g, j, none⟩ = false := by
  unfold IntRow at h
  exact World.ownsRow.frozenAt h j
theorem IntRow.store {w : World} {B g cap n : Nat} {l : List Int} (h : IntRow w B (.slice (some ⟨g, 0, none⟩) n cap) l) (hn : l.length = n) (j : Nat) (x : Int) :
    IntRow (w.setCell ⟨g, j, none⟩ (.int .i64 x)) B (.slice (some ⟨g, 0, none⟩) n cap) (l.set j x) ∧ w.grownBy (w.setCell ⟨g, j, none⟩ (.int .i64 x)) (some g) := by
  unfold IntRow at h ⊢
  rw [hn] at h
  have h2 := World.ownsRow.stored h j (.int .i64 x)
  rw [List.length_set, hn]
  have e : intsV (l.set j x) = (intsV l).set j (.int .i64 x) := by simp [intsV, List.map_set]
  rw [e]
  exact h2

/-- One int is appended to a row of ints of the call's own. -/
theorem wp_int {ops : Array Oper} {rest : List Oper} {o : Oper} {a : Act} {Q : Exit → Act → World → Prop} (hgd : o.guard = none) (s x : Operand)
    (ho : o.op = .call { callee := .builtin .append, args := #[s, x], argTypes := #[34, 34] })
    (B : Nat) (w wr : World) (v : Value) (l : List Int) (c : Int) (ob : Obj) (hown : IntRow wr B v l) (hb : Below B w wr) (hB : B ≤ wr.heap.size) (hlen : l.length ≤ 10000000)
    (hs : a.eval s = v) (hx : a.eval x = .slice (some ⟨wr.heap.size, 0, none⟩) 1 1) (hob : ob = .cells #[.int .i64 c] 3)
    (h : ∀ v' w1, IntRow w1 B v' (l ++ [c]) → Below B w w1 → wr.grownBy w1 v.ownBlock → wpList Try.prog ops Q rest (a.put o.dst v') w1) :
    wpList Try.prog ops Q (o :: rest) a (wr.alloc ob) := by
  subst hob
  obtain ⟨i0, hi, hz0, hz1, hz2⟩ := info_parts Try.infoInt
  refine wpList_append_own _ hgd s x 34 ho B 3 i0 (.int .i64 0) 1 8 Try.underlying34 hi hz0 hz1 hz2 rfl (by decide) v l.length (intsV l) hs (World.ownsRow.alloc hown _) ⟨wr.heap.size, 0, none⟩ 1 1 [.int .i64 c] hx rfl ?_ ?_ ?_ ?_ ?_ ?_
  · intro j u hj
    match j, hj with
    | 0, hj =>
      simp at hj
      subst hj
      exact World.cell?_alloc_mark wr _ _ _ 0
    | j + 1, hj => simp at hj
  · intro u hu; simp at hu; subst hu; rfl
  · unfold maxLen; omega
  · omega
  · simp; omega
  · intro v' w1 h1 h2 _
    refine h v' w1 ?_ ((hb.alloc hB _).grown h2 (by simp; omega) (fun j hj => (World.ownsRow.lt hown j hj).1)) ?_
    · unfold IntRow
      rw [intsV_snoc, List.length_append, List.length_singleton]
      exact h1
    · refine ⟨h2.os.trans rfl, h2.tape.trans rfl, h2.output.trans rfl, by have := h2.size; simp at this; omega, fun i hi hne => ?_⟩
      rw [h2.block i (by simp; omega) hne, Below.heap_alloc wr _ i hi]

/-- A list of ints that can be read. -/
def IntsIn (w : World) (v : Value) (l : List Int) : Prop :=
  ∃ a cap, v = .slice a l.length cap ∧ (l.length : Int) ≤ 2000000 ∧ (∀ x ∈ l, -9223372036854775808 ≤ x ∧ x ≤ 9223372036854775807) ∧
    (0 < l.length → ∃ b off, a = some ⟨b, off, none⟩ ∧ b < w.heap.size ∧ ∀ j, j < l.length → w.cell? ⟨b, off + j, none⟩ = some (.int .i64 (l.getD j 0)))
theorem IntsIn.below {w w' : World} {v : Value} {l : List Int} (h : IntsIn w v l) (hb : Below w.heap.size w w') : IntsIn w' v l := by
  obtain ⟨a, cap, rfl, h1, h2, h3⟩ := h
  refine ⟨a, cap, rfl, h1, h2, fun h0 => ?_⟩
  obtain ⟨b, off, rfl, hlt, hc⟩ := h3 h0
  exact ⟨b, off, rfl, Nat.lt_of_lt_of_le hlt hb.size, fun j hj => (hb.cell (p := ⟨b, off + j, none⟩) hlt).trans (hc j hj)⟩
theorem IntRow.ints {w : World} {B : Nat} {v : Value} {l : List Int} (h : IntRow w B v l) (hl : l.length ≤ 2000000) (hx : ∀ x ∈ l, -9223372036854775808 ≤ x ∧ x ≤ 9223372036854775807) : IntsIn w v l := by
  rcases h.shape with ⟨rfl, rfl⟩ | ⟨g, cap, rfl, hB, hg⟩
  · exact ⟨none, 0, rfl, by decide, hx, fun h => absurd h (by decide)⟩
  · exact ⟨_, cap, rfl, by omega, hx, fun h0 => ⟨g, 0, rfl, hg, fun j hj => by rw [Nat.zero_add]; exact h.cell j hj⟩⟩
theorem getD_mem {l : List Int} {j : Nat} (h : j < l.length) : l.getD j 0 ∈ l := by
  rw [List.getD_eq_getElem?_getD, List.getElem?_eq_getElem h]; exact List.getElem_mem h
end Go.Proofs.Ytecakbjcnabpnaa
