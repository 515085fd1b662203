/-
  Lists of lists of ints: made by the call itself; read.
-/
import Derived.Test.YtecakbjcnabpnaaResIM
import Derived.Test.YtecakbjcnabpnaaRowD
import Derived.OwnWalk
namespace Go.Proofs.Ytecakbjcnabpnaa
open Go.RowKit Plain
set_option linter.unusedVariables false

theorem Try.infoSl : (Try.prog.info? 34).map (fun i => (i.zero, i.size, i.bytes)) = some (some (.slice none 0 0), 1, 24) := by kernel_rfl

def nilS : Value := .slice none 0 0
def SlRow (w : World) (B : Nat) (v : Value) (us : List Value) : Prop := w.ownsRow B 34 1 v us.length us
theorem SlRow.kept {w w' : World} {B : Nat} {v : Value} {us : List Value} {row : Option Nat} (h : SlRow w B v us) (hg : w.grownBy w' row) (hne : v.ownBlock = none ∨ v.ownBlock ≠ row) : SlRow w' B v us := World.ownsRow.kept h hg hne
theorem SlRow.lt {w : World} {B : Nat} {v : Value} {us : List Value} (h : SlRow w B v us) : ∀ k, v.ownBlock = some k → B ≤ k ∧ k < w.heap.size := World.ownsRow.lt h
theorem SlRow.base {w : World} {B C : Nat} {v : Value} {us : List Value} (h : SlRow w B v us) (hC : C ≤ B) : SlRow w C v us := by
  refine ⟨h.1, ?_⟩
  rcases h.2 with hn | ⟨g, cap, cur, rfl, hb, rest⟩
  · exact .inl hn
  · exact .inr ⟨g, cap, cur, rfl, by omega, rest⟩
/-- A row of slices and a row of ints lie in different blocks. -/
theorem apart {w : World} {B C : Nat} {v u : Value} {us : List Value} {l : List Int} (h : SlRow w B v us) (hu : IntRow w C u l) : u.ownBlock = none ∨ u.ownBlock ≠ v.ownBlock := by
  rcases hu.2 with ⟨rfl, _⟩ | ⟨g, cap, cur, rfl, _, hg, _⟩
  · exact .inl rfl
  · rcases h.2 with ⟨rfl, _⟩ | ⟨g', cap', cur', rfl, _, hg', _⟩
    · exact .inr (by simp [Value.ownBlock])
    · refine .inr fun e => ?_
      simp only [Value.ownBlock, Option.some.injEq] at e
      subst e
      rw [hg] at hg'
      simp at hg'

/-- A list of lists that the call made itself: each in memory of its own. -/
def RowsOwn (w : World) (B : Nat) (v : Value) (L : List (List Int)) : Prop :=
  ∃ us : List Value, us.length = L.length ∧ SlRow w B v us ∧ (∀ j, j < L.length → IntRow w B (us.getD j nilS) (L.getD j [])) ∧
    ∀ i j, i < L.length → j < L.length → i ≠ j → (us.getD i nilS).ownBlock = none ∨ (us.getD i nilS).ownBlock ≠ (us.getD j nilS).ownBlock
theorem RowsOwn.kept {w w' : World} {B b : Nat} {v : Value} {L : List (List Int)} (h : RowsOwn w B v L) (hg : w.grownBy w' (some b)) (hb : b < B) : RowsOwn w' B v L := by
  obtain ⟨us, h1, h2, h3, h4⟩ := h
  refine ⟨us, h1, h2.kept hg ?_, fun j hj => (h3 j hj).kept hg ?_, h4⟩
  · cases hv : v.ownBlock with
    | none => exact .inl rfl
    | some k => exact .inr fun e => by have := (h2.lt k hv).1; cases e; omega
  · cases hv : (us.getD j nilS).ownBlock with
    | none => exact .inl rfl
    | some k => exact .inr fun e => by have := ((h3 j hj).lt k hv).1; cases e; omega
theorem RowsOwn.below {w w' : World} {B : Nat} {v : Value} {L : List (List Int)} (h : RowsOwn w B v L) (hb : Below w.heap.size w w') : RowsOwn w' B v L := by
  obtain ⟨us, h1, h2, h3, h4⟩ := h
  exact ⟨us, h1, h2.kept (grownNone hb) (by cases hv : v.ownBlock <;> simp), fun j hj => (h3 j hj).below hb, h4⟩
theorem RowsOwn.base {w : World} {B C : Nat} {v : Value} {L : List (List Int)} (h : RowsOwn w B v L) (hC : C ≤ B) : RowsOwn w C v L := by
  obtain ⟨us, h1, h2, h3, h4⟩ := h
  exact ⟨us, h1, h2.base hC, fun j hj => (h3 j hj).base hC, h4⟩
theorem RowsOwn.nil (w : World) (B : Nat) : RowsOwn w B (.slice none 0 0) [] :=
  ⟨[], rfl, World.ownsRow_nil w B _ 1, fun j hj => absurd hj (by simp), fun i j hi => absurd hi (by simp)⟩

/-- A list of lists that can be read. -/
def RowsRd (w : World) (v : Value) (L : List (List Int)) : Prop :=
  ∃ a cap, v = .slice a L.length cap ∧ L.length ≤ 1000 ∧
    (0 < L.length → ∃ b off, a = some ⟨b, off, none⟩ ∧ b < w.heap.size ∧ ∀ j, j < L.length → ∃ u, w.cell? ⟨b, off + j, none⟩ = some u ∧ IntsIn w u (L.getD j []))
theorem RowsRd.below {w w' : World} {v : Value} {L : List (List Int)} (h : RowsRd w v L) (hb : Below w.heap.size w w') : RowsRd w' v L := by
  obtain ⟨a, cap, rfl, h1, h2⟩ := h
  refine ⟨a, cap, rfl, h1, fun h0 => ?_⟩
  obtain ⟨b, off, rfl, hlt, hc⟩ := h2 h0
  refine ⟨b, off, rfl, Nat.lt_of_lt_of_le hlt hb.size, fun j hj => ?_⟩
  obtain ⟨u, hu, hi⟩ := hc j hj
  exact ⟨u, (hb.cell (p := ⟨b, off + j, none⟩) hlt).trans hu, hi.below hb⟩
theorem SlRow.rd {w : World} {B : Nat} {v : Value} {us : List Value} {L : List (List Int)} (h : SlRow w B v us) (hl : us.length = L.length) (hL : L.length ≤ 1000) (hi : ∀ j, j < L.length → IntsIn w (us.getD j nilS) (L.getD j [])) : RowsRd w v L := by
  rcases h.2 with ⟨rfl, hn⟩ | ⟨g, cap, cur, rfl, hb, hg, _⟩
  · exact ⟨none, 0, by rw [← hl, hn], hL, fun h0 => absurd h0 (by omega)⟩
  · refine ⟨some ⟨g, 0, none⟩, cap, by rw [hl], hL, fun h0 => ⟨g, 0, rfl, (Array.getElem?_eq_some_iff.1 hg).1, fun j hj => ⟨us.getD j nilS, ?_, hi j hj⟩⟩⟩
    rw [Nat.zero_add]
    have hc := World.ownsRow.cellAt h j (by omega)
    rw [hc, List.getD_eq_getElem?_getD, List.getElem?_eq_getElem (by omega)]
    rfl
/-- Small numbers. -/
def Small (L : List (List Int)) : Prop := L.length ≤ 1000 ∧ ∀ l ∈ L, l.length ≤ 1000 ∧ ∀ x ∈ l, -9223372036854775808 ≤ x ∧ x ≤ 9223372036854775807
theorem getD_mem' {α : Type} {l : List α} {d : α} {j : Nat} (h : j < l.length) : l.getD j d ∈ l := by
  rw [List.getD_eq_getElem?_getD, List.getElem?_eq_getElem h]; exact List.getElem_mem h
theorem RowsOwn.rd {w : World} {B : Nat} {v : Value} {L : List (List Int)} (h : RowsOwn w B v L) (hs : Small L) : RowsRd w v L := by
  obtain ⟨us, h1, h2, h3, h4⟩ := h
  exact h2.rd h1 hs.1 fun j hj => (h3 j hj).ints (by have := (hs.2 _ (getD_mem' (d := []) hj)).1; omega) (hs.2 _ (getD_mem' hj)).2

theorem getD_snoc {α : Type} (l : List α) (x d : α) (j : Nat) : (j < l.length ∧ (l ++ [x]).getD j d = l.getD j d) ∨ (j = l.length ∧ (l ++ [x]).getD j d = x) ∨ l.length < j := by
  rcases Nat.lt_trichotomy j l.length with h | h | h
  · refine .inl ⟨h, ?_⟩
    simp [List.getD_eq_getElem?_getD, List.getElem?_append_left h]
  · refine .inr (.inl ⟨h, ?_⟩)
    subst h
    simp [List.getD_eq_getElem?_getD]
  · exact .inr (.inr h)

/-- One list is appended to a list of lists of the call's own. -/
theorem wp_row {ops : Array Oper} {rest : List Oper} {o : Oper} {a : Act} {Q : Exit → Act → World → Prop} (hgd : o.guard = none) (s x : Operand)
    (ho : o.op = .call { callee := .builtin .append, args := #[s, x], argTypes := #[54, 54] })
    (B : Nat) (w W wr : World) (v : Value) (ad : Option Addr) (len cap : Nat) (L : List (List Int)) (l : List Int) (ob : Obj) (hown : RowsOwn W B v L) (hbW : Below W.heap.size W wr)
    (hu : IntRow wr W.heap.size (.slice ad len cap) l) (hb : Below B w wr) (hB : B ≤ W.heap.size) (hlen : L.length ≤ 10000)
    (hs : a.eval s = v) (hx : a.eval x = .slice (some ⟨wr.heap.size, 0, none⟩) 1 1) (hob : ob = .cells #[.slice ad len cap] 34)
    (h : ∀ v' w1, RowsOwn w1 B v' (L ++ [l]) → Below B w w1 → wpList Try.prog ops Q rest (a.put o.dst v') w1) :
    wpList Try.prog ops Q (o :: rest) a (wr.alloc ob) := by
  subst hob
  have hWr := hbW.size
  obtain ⟨us, h1, h2W, h3W, h4⟩ := hown
  have h2 : SlRow wr B v us := h2W.kept (grownNone hbW) (by cases hv : v.ownBlock <;> simp)
  have h3 : ∀ j, j < L.length → IntRow wr B (us.getD j nilS) (L.getD j []) := fun j hj => (h3W j hj).below hbW
  obtain ⟨i0, hi, hz0, hz1, hz2⟩ := info_parts Try.infoSl
  refine wpList_append_own _ hgd s x 54 ho B 34 i0 (.slice none 0 0) 1 24 Try.underlying54 hi hz0 hz1 hz2 rfl (by decide) v us.length us hs (World.ownsRow.alloc h2 _) ⟨wr.heap.size, 0, none⟩ 1 1 [.slice ad len cap] hx rfl ?_ ?_ ?_ ?_ ?_ ?_
  · intro j u hj
    match j, hj with
    | 0, hj =>
      simp at hj
      subst hj
      exact World.cell?_alloc_mark wr _ _ _ 0
    | j + 1, hj => simp at hj
  · intro u hu; simp at hu; subst hu; rfl
  · unfold maxLen; omega
  · omega
  · simp; omega
  · intro v' w1 g1 g2 _
    have hg : wr.grownBy w1 v.ownBlock := ⟨g2.os.trans rfl, g2.tape.trans rfl, g2.output.trans rfl, by have := g2.size; simp at this; omega, fun i hi hne => by rw [g2.block i (by simp; omega) hne, Below.heap_alloc wr _ i hi]⟩
    refine h v' w1 ⟨us ++ [.slice ad len cap], by simp [h1], ?_, ?_, ?_⟩ (hb.grown hg (by omega) (fun j hj => (h2.lt j hj).1))
    · unfold SlRow
      rw [List.length_append, List.length_singleton]
      exact g1
    · intro j hj
      rw [List.length_append, List.length_singleton] at hj
      rcases getD_snoc L l [] j with ⟨q1, q2⟩ | ⟨q1, q2⟩ | q
      · rcases getD_snoc us (.slice ad len cap) nilS j with ⟨p1, p2⟩ | ⟨p1, p2⟩ | p
        · rw [q2, p2]
          exact (h3 j q1).kept hg (apart h2 (h3 j q1))
        · omega
        · omega
      · rcases getD_snoc us (.slice ad len cap) nilS j with ⟨p1, p2⟩ | ⟨p1, p2⟩ | p
        · omega
        · rw [q2, p2]
          exact (hu.base hB).kept hg (apart h2 hu)
        · omega
      · omega
    · have far : ∀ i, i < L.length → (us.getD i nilS).ownBlock = none ∨ (us.getD i nilS).ownBlock ≠ (Value.slice ad len cap).ownBlock := by
        intro i hi
        cases hv : (us.getD i nilS).ownBlock with
        | none => exact .inl rfl
        | some k =>
          refine .inr fun e => ?_
          have q1 := ((h3W i hi).lt k hv).2
          have q2 := (hu.lt k e.symm).1
          omega
      intro i j hi hj hne
      rw [List.length_append, List.length_singleton] at hi hj
      rcases getD_snoc us (.slice ad len cap) nilS i with ⟨p1, p2⟩ | ⟨p1, p2⟩ | p <;> rcases getD_snoc us (.slice ad len cap) nilS j with ⟨q1, q2⟩ | ⟨q1, q2⟩ | q <;> try omega
      · rw [p2, q2]; exact h4 i j (by omega) (by omega) hne
      · rw [p2, q2]; exact far i (by omega)
      · rw [p2, q2]
        cases hv : (Value.slice ad len cap).ownBlock with
        | none => exact .inl rfl
        | some k =>
          refine .inr fun e => ?_
          rcases far j (by omega) with h | h
          · rw [h] at e; cases e
          · exact h (by rw [hv, e])
end Go.Proofs.Ytecakbjcnabpnaa
