/-
  Rows of ints that a call made itself; lists of ints that can be read; the laws' functions on lists of ints.
  The laws' functions on lists of ints: compared, marked, held, copied.
  The laws' copy of a list of ints.
  Lists of ints appended to rows of the call's own, inside a region that draws its order.
-/
import Derived.Test.YtbkkohkigpkddaaTabA
import Derived.OneCell
import Derived.BigQuiet
import Derived.Deep.QuietTactic
import Derived.Laws.OwnMore
import Derived.Laws.AppendOwn
import Derived.Deep.DeepMust
import Derived.Deep.RegionLaw

namespace Go.Proofs.Ytbkkohkigpkddaa
open Go.RowKit Plain
set_option linter.unusedVariables false

theorem Try.infoInt : (Try.prog.info? 3).map (fun i => (i.zero, i.size, i.bytes)) = some (some (.int .i64 0), 1, 8) := by kernel_rfl

def intsV (l : List Int) : List Value := l.map (fun x => Value.int .i64 x)
def IntRow (w : World) (B : Nat) (v : Value) (l : List Int) : Prop := w.ownsRow B 3 1 v l.length (intsV l)
theorem intsV_snoc (l : List Int) (x : Int) : intsV (l ++ [x]) = intsV l ++ [.int .i64 x] := by simp [intsV]

theorem grownNone {w w' : World} (hb : Below w.heap.size w w') : w.grownBy w' none := ⟨hb.os, hb.tape, hb.output, hb.size, fun i hi _ => hb.block i hi⟩
theorem IntRow.kept {w w' : World} {B : Nat} {v : Value} {l : List Int} {row : Option Nat} (h : IntRow w B v l) (hg : w.grownBy w' row) (hne : v.ownBlock = none ∨ v.ownBlock ≠ row) : IntRow w' B v l := World.ownsRow.kept h hg hne
theorem IntRow.below {w w' : World} {B : Nat} {v : Value} {l : List Int} (h : IntRow w B v l) (hb : Below w.heap.size w w') : IntRow w' B v l :=
  World.ownsRow.kept h (grownNone hb) (by cases hv : v.ownBlock <;> simp)
theorem IntRow.lt {w : World} {B : Nat} {v : Value} {l : List Int} (h : IntRow w B v l) : ∀ k, v.ownBlock = some k → B ≤ k ∧ k < w.heap.size := World.ownsRow.lt h
theorem IntRow.alloc {w : World} {B : Nat} {v : Value} {l : List Int} (h : IntRow w B v l) (o : Obj) : IntRow (w.alloc o) B v l := World.ownsRow.alloc h o
theorem IntRow.base {w : World} {B C : Nat} {v : Value} {l : List Int} (h : IntRow w B v l) (hC : C ≤ B) : IntRow w C v l := by
  refine ⟨h.1, ?_⟩
  rcases h.2 with hn | ⟨g, cap, cur, rfl, hb, rest⟩
  · exact .inl hn
  · exact .inr ⟨g, cap, cur, rfl, by omega, rest⟩
theorem IntRow.shape {w : World} {B : Nat} {v : Value} {l : List Int} (h : IntRow w B v l) : (v = .slice none 0 0 ∧ l = []) ∨ ∃ g cap, v = .slice (some ⟨g, 0, none⟩) l.length cap ∧ B ≤ g ∧ g < w.heap.size := by
  rcases h.2 with ⟨rfl, hn⟩ | ⟨g, cap, cur, rfl, hb, hg, _⟩
  · exact .inl ⟨rfl, List.eq_nil_of_length_eq_zero hn⟩
  · exact .inr ⟨g, cap, rfl, hb, (Array.getElem?_eq_some_iff.1 hg).1⟩
theorem IntRow.cell {w : World} {B g cap : Nat} {l : List Int} (h : IntRow w B (.slice (some ⟨g, 0, none⟩) l.length cap) l) (j : Nat) (hj : j < l.length) :
    w.cell? ⟨g, j, none⟩ = some (.int .i64 (l.getD j 0)) := by
  unfold IntRow at h
  rw [World.ownsRow.cellAt h j (by omega)]
  simp [intsV, hj]
theorem IntRow.free {w : World} {B g cap : Nat} {l : List Int} (h : IntRow w B (.slice (some ⟨g, 0, none⟩) l.length cap) l) (j : Nat) : w.frozen? ⟨g, j, none⟩ = false := by
  unfold IntRow at h
  exact World.ownsRow.frozenAt h j
theorem IntRow.store {w : World} {B g cap n : Nat} {l : List Int} (h : IntRow w B (.slice (some ⟨g, 0, none⟩) n cap) l) (hn : l.length = n) (j : Nat) (x : Int) :
    IntRow (w.setCell ⟨g, j, none⟩ (.int .i64 x)) B (.slice (some ⟨g, 0, none⟩) n cap) (l.set j x) ∧ w.grownBy (w.setCell ⟨g, j, none⟩ (.int .i64 x)) (some g) := by
  unfold IntRow at h ⊢
  rw [hn] at h
  have h2 := World.ownsRow.stored h j (.int .i64 x)
  rw [List.length_set, hn]
  have e : intsV (l.set j x) = (intsV l).set j (.int .i64 x) := by simp [intsV, List.map_set]
  rw [e]
  exact h2

/-- One int is appended to a row of ints of the call's own. -/
theorem wp_int {ops : Array Oper} {rest : List Oper} {o : Oper} {a : Act} {Q : Exit → Act → World → Prop} (hgd : o.guard = none) (s x : Operand)
    (ho : o.op = .call { callee := .builtin .append, args := #[s, x], argTypes := #[53, 53] })
    (B : Nat) (w wr : World) (v : Value) (l : List Int) (c : Int) (ob : Obj) (hown : IntRow wr B v l) (hb : Below B w wr) (hB : B ≤ wr.heap.size) (hlen : l.length ≤ 10000000)
    (hs : a.eval s = v) (hx : a.eval x = .slice (some ⟨wr.heap.size, 0, none⟩) 1 1) (hob : ob = .cells #[.int .i64 c] 3)
    (h : ∀ v' w1, IntRow w1 B v' (l ++ [c]) → Below B w w1 → wr.grownBy w1 v.ownBlock → wpList Try.prog ops Q rest (a.put o.dst v') w1) :
    wpList Try.prog ops Q (o :: rest) a (wr.alloc ob) := by
  subst hob
  obtain ⟨i0, hi, hz0, hz1, hz2⟩ := info_parts Try.infoInt
  refine wpList_append_own _ hgd s x 53 ho B 3 i0 (.int .i64 0) 1 8 Try.underlying53 hi hz0 hz1 hz2 rfl (by decide) v l.length (intsV l) hs (World.ownsRow.alloc hown _) ⟨wr.heap.size, 0, none⟩ 1 1 [.int .i64 c] hx rfl ?_ ?_ ?_ ?_ ?_ ?_
  · intro j u hj
    match j, hj with
    | 0, hj =>
      simp at hj
      subst hj
      exact World.cell?_alloc_mark wr _ _ _ 0
    | j + 1, hj => simp at hj
  · intro u hu; simp at hu; subst hu; rfl
  · unfold maxLen; omega
  · omega
  · simp; omega
  · intro v' w1 h1 h2 _
    refine h v' w1 ?_ ((hb.alloc hB _).grown h2 (by simp; omega) (fun j hj => (World.ownsRow.lt hown j hj).1)) ?_
    · unfold IntRow
      rw [intsV_snoc, List.length_append, List.length_singleton]
      exact h1
    · refine ⟨h2.os.trans rfl, h2.tape.trans rfl, h2.output.trans rfl, by have := h2.size; simp at this; omega, fun i hi hne => ?_⟩
      rw [h2.block i (by simp; omega) hne, Below.heap_alloc wr _ i hi]

/-- A list of ints that can be read. -/
def IntsIn (w : World) (v : Value) (l : List Int) : Prop :=
  ∃ a cap, v = .slice a l.length cap ∧ (l.length : Int) ≤ 2000000 ∧ (∀ x ∈ l, -9223372036854775808 ≤ x ∧ x ≤ 9223372036854775807) ∧
    (0 < l.length → ∃ b off, a = some ⟨b, off, none⟩ ∧ b < w.heap.size ∧ ∀ j, j < l.length → w.cell? ⟨b, off + j, none⟩ = some (.int .i64 (l.getD j 0)))
theorem IntsIn.below {w w' : World} {v : Value} {l : List Int} (h : IntsIn w v l) (hb : Below w.heap.size w w') : IntsIn w' v l := by
  obtain ⟨a, cap, rfl, h1, h2, h3⟩ := h
  refine ⟨a, cap, rfl, h1, h2, fun h0 => ?_⟩
  obtain ⟨b, off, rfl, hlt, hc⟩ := h3 h0
  exact ⟨b, off, rfl, Nat.lt_of_lt_of_le hlt hb.size, fun j hj => (hb.cell (p := ⟨b, off + j, none⟩) hlt).trans (hc j hj)⟩
theorem IntRow.ints {w : World} {B : Nat} {v : Value} {l : List Int} (h : IntRow w B v l) (hl : l.length ≤ 2000000) (hx : ∀ x ∈ l, -9223372036854775808 ≤ x ∧ x ≤ 9223372036854775807) : IntsIn w v l := by
  rcases h.shape with ⟨rfl, rfl⟩ | ⟨g, cap, rfl, hB, hg⟩
  · exact ⟨none, 0, rfl, by decide, hx, fun h => absurd h (by decide)⟩
  · exact ⟨_, cap, rfl, by omega, hx, fun h0 => ⟨g, 0, rfl, hg, fun j hj => by rw [Nat.zero_add]; exact h.cell j hj⟩⟩
theorem getD_mem {l : List Int} {j : Nat} (h : j < l.length) : l.getD j 0 ∈ l := by
  rw [List.getD_eq_getElem?_getD, List.getElem?_eq_getElem h]; exact List.getElem_mem h

end Go.Proofs.Ytbkkohkigpkddaa

namespace Go.Proofs.Ytbkkohkigpkddaa
open Go.RowKit Plain
set_option linter.unusedVariables false

/-- The marks k, k+1, .. -/
def Plain.marks (k n : Nat) : List Int := (List.range n).map fun i => ((k + i : Nat) : Int)
theorem marks_length (k n : Nat) : (marks k n).length = n := by simp [marks]
theorem marks_getD (k n j : Nat) (h : j < n) : (marks k n).getD j 0 = ((k + j : Nat) : Int) := by
  simp [marks, List.getD_eq_getElem?_getD, h]
theorem marks_bound (k n : Nat) (h : (k + n : Int) ≤ 4000000) : ∀ x ∈ marks k n, -9223372036854775808 ≤ x ∧ x ≤ 9223372036854775807 := by
  intro x hx
  simp only [marks, List.mem_map, List.mem_range] at hx
  obtain ⟨i, hi, rfl⟩ := hx
  omega

theorem marks_set (k j : Nat) (l : List Int) (h : j < l.length) : (marks k j ++ l.drop j).set j ((k + j : Nat) : Int) = marks k (j + 1) ++ l.drop (j + 1) := by
  rw [List.set_append_right _ _ (by rw [marks_length]; exact Nat.le_refl _), marks_length, Nat.sub_self, List.drop_eq_getElem_cons h, List.set_cons_zero]
  simp [marks, List.range_succ]
theorem marks_len (k j : Nat) (l : List Int) (h : j ≤ l.length) : (marks k j ++ l.drop j).length = l.length := by
  rw [List.length_append, marks_length, List.length_drop]; omega

/-- What markIntS leaves. -/
def Marked (B : Nat) (v : Value) (k n : Nat) (w : World) (e : Ending) (w' : World) : Prop :=
  e = .returned (.int .i64 ((k + n : Nat) : Int)) ∧ IntRow w' B v (marks k n) ∧ w.grownBy w' v.ownBlock

end Go.Proofs.Ytbkkohkigpkddaa

namespace Go.Proofs.Ytbkkohkigpkddaa
open Go.RowKit Plain
set_option linter.unusedVariables false

theorem IntRow.made {w : World} {B n : Nat} {v : Value} (h : w.ownsRow B 3 1 v n (madeCells (Value.int .i64 0).cells (n * 1)).toList) : IntRow w B v (List.replicate n 0) := by
  have e : (madeCells (Value.int .i64 0).cells (n * 1)).toList = intsV (List.replicate n 0) := by
    show (madeCells #[Value.int .i64 0] (n * 1)).toList = _
    rw [toList_madeCells_one, Nat.mul_one]
    simp [intsV]
  unfold IntRow
  rw [← e, List.length_replicate]
  exact h

/-- A list of ints in new memory. -/
def CopyOut (l : List Int) (w : World) (e : Ending) (w' : World) : Prop := ∃ g, e = .returned (.slice (some ⟨g, 0, none⟩) l.length l.length) ∧ IntRow w' w.heap.size (.slice (some ⟨g, 0, none⟩) l.length l.length) l ∧ Below w.heap.size w w'

theorem copy_set (l : List Int) (k : Nat) (h : k < l.length) : (l.take k ++ List.replicate (l.length - k) 0).set k (l.getD k 0) = l.take (k + 1) ++ List.replicate (l.length - (k + 1)) 0 := by
  have hk : (l.take k).length = k := by rw [List.length_take]; omega
  rw [List.set_append_right _ _ (by omega), hk, Nat.sub_self, show l.length - k = (l.length - (k + 1)) + 1 by omega, List.replicate_succ, List.set_cons_zero, List.take_succ_eq_append_getElem h, List.append_assoc]
  congr 1
  rw [List.getD_eq_getElem?_getD, List.getElem?_eq_getElem h]
  rfl
theorem copy_len (l : List Int) (k : Nat) (h : k ≤ l.length) : (l.take k ++ List.replicate (l.length - k) 0).length = l.length := by
  rw [List.length_append, List.length_take, List.length_replicate]; omega

end Go.Proofs.Ytbkkohkigpkddaa

namespace Go.Proofs.Ytbkkohkigpkddaa
open Go.RowKit Plain
set_option linter.unusedVariables false

/-- A row of ints of the call's own that is not nil: block, capacity, numbers. -/
def RowAt (w : World) (B g cap : Nat) (l : List Int) : Prop := IntRow w B (.slice (some ⟨g, 0, none⟩) l.length cap) l ∧ l.length ≤ cap
theorem RowAt.cell {w : World} {B g cap : Nat} {l : List Int} (h : RowAt w B g cap l) (j : Nat) (hj : j < l.length) : w.cell? ⟨g, j, none⟩ = some (.int .i64 (l.getD j 0)) := h.1.cell j hj
theorem RowAt.lt {w : World} {B g cap : Nat} {l : List Int} (h : RowAt w B g cap l) : B ≤ g ∧ g < w.heap.size := h.1.lt g rfl
theorem RowAt.below {w w' : World} {B g cap : Nat} {l : List Int} (h : RowAt w B g cap l) (hb : Below w.heap.size w w') : RowAt w' B g cap l := ⟨h.1.below hb, h.2⟩
theorem rowLit (w : World) (B g : Nat) (l : List Int) (hg : g = w.heap.size) (hB : B ≤ g) (hl : l.length ≤ 1000) : RowAt (w.alloc (.cells (l.map (Value.int .i64)).toArray 3)) B g l.length l := by
  subst hg
  refine ⟨?_, Nat.le_refl _⟩
  have h := World.ownsRow_lit (e := 3) (size := 1) (base := B) w (l.map (Value.int .i64)).toArray l.length hB (by unfold maxLen; omega) (by simp)
  unfold IntRow
  simpa [intsV] using h

theorem step_ints {ops : Array Oper} {o : Oper} {a : Act} {K : Act → World → Prop} {Q : Exit → Act → World → Prop} {E : Prop} (hgd : o.guard = none) (s x : Operand)
    (ho : o.op = .call { callee := .builtin .append, args := #[s, x], argTypes := #[53, 53] })
    (B : Nat) (W0 wr : World) (g cap n m r : Nat) (l news : List Int) (sb so sc : Nat) (hown : RowAt wr B g cap l) (hn : l.length = n) (hm : news.length = m) (hr : n + m = r) (hb : Below B W0 wr) (hB : B ≤ wr.heap.size) (hlen : r ≤ 1000)
    (hs : a.eval s = .slice (some ⟨g, 0, none⟩) n cap) (hx : a.eval x = .slice (some ⟨sb, so, none⟩) m sc) (hsrc : ∀ j, j < m → wr.cell? ⟨sb, so + j, none⟩ = some (.int .i64 (news.getD j 0)))
    (h : ∀ g' cap' w1, RowAt w1 B g' cap' (l ++ news) → (l ++ news).length = r → Below B W0 w1 → wr.grownBy w1 (some g) → K (a.put o.dst (.slice (some ⟨g', 0, none⟩) r cap')) w1) :
    if Region.wanted o (yielded ops a.tmps) = true then Oper.wp Try.prog o a wr K Q else E := by
  have hw : Region.wanted o (yielded ops a.tmps) = true := by simp [Region.wanted, hgd]
  rw [if_pos hw]
  subst hn hm hr
  obtain ⟨i0, hi, hz0, hz1, hz2⟩ := info_parts Try.infoInt
  refine wp_append_own _ s x 53 ho B 3 i0 (.int .i64 0) 1 8 Try.underlying53 hi hz0 hz1 hz2 rfl (by decide) _ l.length (intsV l) hs hown.1 ⟨sb, so, none⟩ news.length sc (intsV news) hx (by simp [intsV]) ?_ ?_ ?_ ?_ hB ?_
  · intro j u hj
    have hjl : j < news.length := by
      rcases Nat.lt_or_ge j news.length with h1 | h1
      · exact h1
      · simp [intsV, List.getElem?_eq_none h1] at hj
    have hc := hsrc j hjl
    rw [show (⟨sb, so, none⟩ : Addr).add j = ⟨sb, so + j, none⟩ by simp [Addr.add], hc]
    simp [intsV, List.getElem?_eq_getElem hjl] at hj
    subst hj
    simp [List.getD_eq_getElem?_getD, List.getElem?_eq_getElem hjl]
  · intro u hu
    simp only [intsV, List.mem_map] at hu
    obtain ⟨y, _, rfl⟩ := hu
    rfl
  · unfold maxLen; omega
  · omega
  · intro v' w1 h1 h2 h3
    have hlt := hown.lt
    have hlen' : (l ++ news).length = l.length + news.length := List.length_append
    have hrow : IntRow w1 B v' (l ++ news) := by
      unfold IntRow
      rw [hlen', show intsV (l ++ news) = intsV l ++ intsV news by simp [intsV]]
      exact h1
    have hbb : Below B W0 w1 := hb.grown h2 hB (fun j hj => by simp [Value.ownBlock] at hj; omega)
    rcases hrow.2 with ⟨hv, _⟩ | ⟨g', cap', cur, hv, hB', hg', hcap, _⟩
    · have := (h3.1 hv).1
      cases this
    · subst hv
      have hh := h g' cap' w1 ⟨hrow, hcap⟩ hlen' hbb (by simpa [Value.ownBlock] using h2)
      rw [hlen']
      exact hh

end Go.Proofs.Ytbkkohkigpkddaa
