/-
  Lists of lists of ints: made by the call itself; read.
  PermutationsOf of the program.
  PermutationsOf of the program: by the number of variables.
-/
import Derived.Test.YthdcjldmafhcjaaResIM
import Derived.Test.YthdcjldmafhcjaaRowB
import Derived.OwnWalk
import Derived.Test.YthdcjldmafhcjaaClsP

namespace Go.Proofs.Ythdcjldmafhcjaa
open Go.RowKit Plain
set_option linter.unusedVariables false

theorem Try.infoSl : (Try.prog.info? 34).map (fun i => (i.zero, i.size, i.bytes)) = some (some (.slice none 0 0), 1, 24) := by kernel_rfl

def nilS : Value := .slice none 0 0
def SlRow (w : World) (B : Nat) (v : Value) (us : List Value) : Prop := w.ownsRow B 34 1 v us.length us
theorem SlRow.kept {w w' : World} {B : Nat} {v : Value} {us : List Value} {row : Option Nat} (h : SlRow w B v us) (hg : w.grownBy w' row) (hne : v.ownBlock = none ∨ v.ownBlock ≠ row) : SlRow w' B v us := World.ownsRow.kept h hg hne
theorem SlRow.lt {w : World} {B : Nat} {v : Value} {us : List Value} (h : SlRow w B v us) : ∀ k, v.ownBlock = some k → B ≤ k ∧ k < w.heap.size := World.ownsRow.lt h
theorem SlRow.base {w : World} {B C : Nat} {v : Value} {us : List Value} (h : SlRow w B v us) (hC : C ≤ B) : SlRow w C v us := by
  refine ⟨h.1, ?_⟩
  rcases h.2 with hn | ⟨g, cap, cur, rfl, hb, rest⟩
  · exact .inl hn
  · exact .inr ⟨g, cap, cur, rfl, by omega, rest⟩
/-- A row of slices and a row of ints lie in different blocks. -/
theorem apart {w : World} {B C : Nat} {v u : Value} {us : List Value} {l : List Int} (h : SlRow w B v us) (hu : IntRow w C u l) : u.ownBlock = none ∨ u.ownBlock ≠ v.ownBlock := by
  rcases hu.2 with ⟨rfl, _⟩ | ⟨g, cap, cur, rfl, _, hg, _⟩
  · exact .inl rfl
  · rcases h.2 with ⟨rfl, _⟩ | ⟨g', cap', cur', rfl, _, hg', _⟩
    · exact .inr (by simp [Value.ownBlock])
    · refine .inr fun e => ?_
      simp only [Value.ownBlock, Option.some.injEq] at e
      subst e
      rw [hg] at hg'
      simp at hg'

/-- A list of lists that the call made itself: each in memory of its own. -/
def RowsOwn (w : World) (B : Nat) (v : Value) (L : List (List Int)) : Prop :=
  ∃ us : List Value, us.length = L.length ∧ SlRow w B v us ∧ (∀ j, j < L.length → IntRow w B (us.getD j nilS) (L.getD j [])) ∧
    ∀ i j, i < L.length → j < L.length → i ≠ j → (us.getD i nilS).ownBlock = none ∨ (us.getD i nilS).ownBlock ≠ (us.getD j nilS).ownBlock
theorem RowsOwn.kept {w w' : World} {B b : Nat} {v : Value} {L : List (List Int)} (h : RowsOwn w B v L) (hg : w.grownBy w' (some b)) (hb : b < B) : RowsOwn w' B v L := by
  obtain ⟨us, h1, h2, h3, h4⟩ := h
  refine ⟨us, h1, h2.kept hg ?_, fun j hj => (h3 j hj).kept hg ?_, h4⟩
  · cases hv : v.ownBlock with
    | none => exact .inl rfl
    | some k => exact .inr fun e => by have := (h2.lt k hv).1; cases e; omega
  · cases hv : (us.getD j nilS).ownBlock with
    | none => exact .inl rfl
    | some k => exact .inr fun e => by have := ((h3 j hj).lt k hv).1; cases e; omega
theorem RowsOwn.below {w w' : World} {B : Nat} {v : Value} {L : List (List Int)} (h : RowsOwn w B v L) (hb : Below w.heap.size w w') : RowsOwn w' B v L := by
  obtain ⟨us, h1, h2, h3, h4⟩ := h
  exact ⟨us, h1, h2.kept (grownNone hb) (by cases hv : v.ownBlock <;> simp), fun j hj => (h3 j hj).below hb, h4⟩
theorem RowsOwn.base {w : World} {B C : Nat} {v : Value} {L : List (List Int)} (h : RowsOwn w B v L) (hC : C ≤ B) : RowsOwn w C v L := by
  obtain ⟨us, h1, h2, h3, h4⟩ := h
  exact ⟨us, h1, h2.base hC, fun j hj => (h3 j hj).base hC, h4⟩
theorem RowsOwn.nil (w : World) (B : Nat) : RowsOwn w B (.slice none 0 0) [] :=
  ⟨[], rfl, World.ownsRow_nil w B _ 1, fun j hj => absurd hj (by simp), fun i j hi => absurd hi (by simp)⟩

/-- A list of lists that can be read. -/
def RowsRd (w : World) (v : Value) (L : List (List Int)) : Prop :=
  ∃ a cap, v = .slice a L.length cap ∧ L.length ≤ 1000 ∧
    (0 < L.length → ∃ b off, a = some ⟨b, off, none⟩ ∧ b < w.heap.size ∧ ∀ j, j < L.length → ∃ u, w.cell? ⟨b, off + j, none⟩ = some u ∧ IntsIn w u (L.getD j []))
theorem RowsRd.below {w w' : World} {v : Value} {L : List (List Int)} (h : RowsRd w v L) (hb : Below w.heap.size w w') : RowsRd w' v L := by
  obtain ⟨a, cap, rfl, h1, h2⟩ := h
  refine ⟨a, cap, rfl, h1, fun h0 => ?_⟩
  obtain ⟨b, off, rfl, hlt, hc⟩ := h2 h0
  refine ⟨b, off, rfl, Nat.lt_of_lt_of_le hlt hb.size, fun j hj => ?_⟩
  obtain ⟨u, hu, hi⟩ := hc j hj
  exact ⟨u, (hb.cell (p := ⟨b, off + j, none⟩) hlt).trans hu, hi.below hb⟩
theorem SlRow.rd {w : World} {B : Nat} {v : Value} {us : List Value} {L : List (List Int)} (h : SlRow w B v us) (hl : us.length = L.length) (hL : L.length ≤ 1000) (hi : ∀ j, j < L.length → IntsIn w (us.getD j nilS) (L.getD j [])) : RowsRd w v L := by
  rcases h.2 with ⟨rfl, hn⟩ | ⟨g, cap, cur, rfl, hb, hg, _⟩
  · exact ⟨none, 0, by rw [← hl, hn], hL, fun h0 => absurd h0 (by omega)⟩
  · refine ⟨some ⟨g, 0, none⟩, cap, by rw [hl], hL, fun h0 => ⟨g, 0, rfl, (Array.getElem?_eq_some_iff.1 hg).1, fun j hj => ⟨us.getD j nilS, ?_, hi j hj⟩⟩⟩
    rw [Nat.zero_add]
    have hc := World.ownsRow.cellAt h j (by omega)
    rw [hc, List.getD_eq_getElem?_getD, List.getElem?_eq_getElem (by omega)]
    rfl
/-- Small numbers. -/
def Small (L : List (List Int)) : Prop := L.length ≤ 1000 ∧ ∀ l ∈ L, l.length ≤ 1000 ∧ ∀ x ∈ l, -9223372036854775808 ≤ x ∧ x ≤ 9223372036854775807
theorem getD_mem' {α : Type} {l : List α} {d : α} {j : Nat} (h : j < l.length) : l.getD j d ∈ l := by
  rw [List.getD_eq_getElem?_getD, List.getElem?_eq_getElem h]; exact List.getElem_mem h
theorem RowsOwn.rd {w : World} {B : Nat} {v : Value} {L : List (List Int)} (h : RowsOwn w B v L) (hs : Small L) : RowsRd w v L := by
  obtain ⟨us, h1, h2, h3, h4⟩ := h
  exact h2.rd h1 hs.1 fun j hj => (h3 j hj).ints (by have := (hs.2 _ (getD_mem' (d := []) hj)).1; omega) (hs.2 _ (getD_mem' hj)).2

theorem getD_snoc {α : Type} (l : List α) (x d : α) (j : Nat) : (j < l.length ∧ (l ++ [x]).getD j d = l.getD j d) ∨ (j = l.length ∧ (l ++ [x]).getD j d = x) ∨ l.length < j := by
  rcases Nat.lt_trichotomy j l.length with h | h | h
  · refine .inl ⟨h, ?_⟩
    simp [List.getD_eq_getElem?_getD, List.getElem?_append_left h]
  · refine .inr (.inl ⟨h, ?_⟩)
    subst h
    simp [List.getD_eq_getElem?_getD]
  · exact .inr (.inr h)

/-- One list is appended to a list of lists of the call's own. -/
theorem wp_row {ops : Array Oper} {rest : List Oper} {o : Oper} {a : Act} {Q : Exit → Act → World → Prop} (hgd : o.guard = none) (s x : Operand)
    (ho : o.op = .call { callee := .builtin .append, args := #[s, x], argTypes := #[30, 30] })
    (B : Nat) (w W wr : World) (v : Value) (ad : Option Addr) (len cap : Nat) (L : List (List Int)) (l : List Int) (ob : Obj) (hown : RowsOwn W B v L) (hbW : Below W.heap.size W wr)
    (hu : IntRow wr W.heap.size (.slice ad len cap) l) (hb : Below B w wr) (hB : B ≤ W.heap.size) (hlen : L.length ≤ 10000)
    (hs : a.eval s = v) (hx : a.eval x = .slice (some ⟨wr.heap.size, 0, none⟩) 1 1) (hob : ob = .cells #[.slice ad len cap] 34)
    (h : ∀ v' w1, RowsOwn w1 B v' (L ++ [l]) → Below B w w1 → wpList Try.prog ops Q rest (a.put o.dst v') w1) :
    wpList Try.prog ops Q (o :: rest) a (wr.alloc ob) := by
  subst hob
  have hWr := hbW.size
  obtain ⟨us, h1, h2W, h3W, h4⟩ := hown
  have h2 : SlRow wr B v us := h2W.kept (grownNone hbW) (by cases hv : v.ownBlock <;> simp)
  have h3 : ∀ j, j < L.length → IntRow wr B (us.getD j nilS) (L.getD j []) := fun j hj => (h3W j hj).below hbW
  obtain ⟨i0, hi, hz0, hz1, hz2⟩ := info_parts Try.infoSl
  refine wpList_append_own _ hgd s x 30 ho B 34 i0 (.slice none 0 0) 1 24 Try.underlying30 hi hz0 hz1 hz2 rfl (by decide) v us.length us hs (World.ownsRow.alloc h2 _) ⟨wr.heap.size, 0, none⟩ 1 1 [.slice ad len cap] hx rfl ?_ ?_ ?_ ?_ ?_ ?_
  · intro j u hj
    match j, hj with
    | 0, hj =>
      simp at hj
      subst hj
      exact World.cell?_alloc_mark wr _ _ _ 0
    | j + 1, hj => simp at hj
  · intro u hu; simp at hu; subst hu; rfl
  · unfold maxLen; omega
  · omega
  · simp; omega
  · intro v' w1 g1 g2 _
    have hg : wr.grownBy w1 v.ownBlock := ⟨g2.os.trans rfl, g2.tape.trans rfl, g2.output.trans rfl, by have := g2.size; simp at this; omega, fun i hi hne => by rw [g2.block i (by simp; omega) hne, Below.heap_alloc wr _ i hi]⟩
    refine h v' w1 ⟨us ++ [.slice ad len cap], by simp [h1], ?_, ?_, ?_⟩ (hb.grown hg (by omega) (fun j hj => (h2.lt j hj).1))
    · unfold SlRow
      rw [List.length_append, List.length_singleton]
      exact g1
    · intro j hj
      rw [List.length_append, List.length_singleton] at hj
      rcases getD_snoc L l [] j with ⟨q1, q2⟩ | ⟨q1, q2⟩ | q
      · rcases getD_snoc us (.slice ad len cap) nilS j with ⟨p1, p2⟩ | ⟨p1, p2⟩ | p
        · rw [q2, p2]
          exact (h3 j q1).kept hg (apart h2 (h3 j q1))
        · omega
        · omega
      · rcases getD_snoc us (.slice ad len cap) nilS j with ⟨p1, p2⟩ | ⟨p1, p2⟩ | p
        · omega
        · rw [q2, p2]
          exact (hu.base hB).kept hg (apart h2 hu)
        · omega
      · omega
    · have far : ∀ i, i < L.length → (us.getD i nilS).ownBlock = none ∨ (us.getD i nilS).ownBlock ≠ (Value.slice ad len cap).ownBlock := by
        intro i hi
        cases hv : (us.getD i nilS).ownBlock with
        | none => exact .inl rfl
        | some k =>
          refine .inr fun e => ?_
          have q1 := ((h3W i hi).lt k hv).2
          have q2 := (hu.lt k e.symm).1
          omega
      intro i j hi hj hne
      rw [List.length_append, List.length_singleton] at hi hj
      rcases getD_snoc us (.slice ad len cap) nilS i with ⟨p1, p2⟩ | ⟨p1, p2⟩ | p <;> rcases getD_snoc us (.slice ad len cap) nilS j with ⟨q1, q2⟩ | ⟨q1, q2⟩ | q <;> try omega
      · rw [p2, q2]; exact h4 i j (by omega) (by omega) hne
      · rw [p2, q2]; exact far i (by omega)
      · rw [p2, q2]
        cases hv : (Value.slice ad len cap).ownBlock with
        | none => exact .inl rfl
        | some k =>
          refine .inr fun e => ?_
          rcases far j (by omega) with h | h
          · rw [h] at e; cases e
          · exact h (by rw [hv, e])

end Go.Proofs.Ythdcjldmafhcjaa

namespace Go.Proofs.Ythdcjldmafhcjaa
open Go.RowKit Plain
set_option linter.unusedVariables false

def Plain.bump (x : Nat) (i : Int) : Int := if i < (x : Int) then i else i + 1
theorem startL_eq (x : Nat) (r : List Int) : startL (x : Int) r = (x : Int) :: r.map (bump x) := rfl
theorem bump_take (x : Nat) (l : List Int) (k : Nat) (h : k < l.length) : (x : Int) :: (l.take (k + 1)).map (bump x) = ((x : Int) :: (l.take k).map (bump x)) ++ [bump x (l.getD k 0)] := by
  rw [List.take_succ_eq_append_getElem h, List.map_append, List.getD_eq_getElem?_getD, List.getElem?_eq_getElem h]
  rfl

set_option maxRecDepth 100000 in
theorem Perm.start (x : Nat) (l : List Int) (ad : Option Addr) (cl cap : Nat) (hx : x ≤ 1000) (hl : l.length ≤ 1000) (hs : ∀ e ∈ l, 0 ≤ e ∧ e ≤ 1000) (w : World) (h : IntsIn w (.slice ad cl cap) l) :
    Calls Try.prog 57 #[.int .i64 x, .slice ad cl cap] w fun e w' => (∃ u, e = .returned u ∧ IntRow w' w.heap.size u (startL x l)) ∧ Below w.heap.size w w' := by
  obtain ⟨a', cap', he, _, _, hrd⟩ := h
  simp only [Value.slice.injEq] at he
  obtain ⟨rfl, rfl, rfl⟩ := he
  have HRD := Lib.hid hrd
  have HS := Lib.hid hs
  have hlz : (l.length : Int) ≤ 1000 := by omega
  have HLN : Hid (l.length ≤ 1000) := Lib.hid hl
  have hxz : (x : Int) ≤ 1000 := by omega
  have HROW := Lib.hid (rowLit w w.heap.size w.heap.size [(x : Int)] rfl (Nat.le_refl _) (by simp)).1
  clear hrd hs hl hx
  go_enter Try.func57, Try.ntmps57
  go_wp2
  go_loopw [5, 7, 12] (fun p _ i wr => ∃ k : Nat, i = .int .i64 (k : Int) ∧ k ≤ l.length ∧ IntRow wr w.heap.size p ((x : Int) :: (l.take k).map (bump x)) ∧ Below w.heap.size w wr) (fun _ _ i _ => l.length - (intOf i).toNat)
  case atStart => exact ⟨0, rfl, by omega, HROW.out, (Below.refl _ _).alloc (Nat.le_refl _) _⟩
  case round =>
    obtain ⟨k, rfl, hk, hrow, hbel⟩ := hrel
    have HBEL := Lib.hid hbel
    have HROW := Lib.hid hrow
    have hsz := hbel.size
    by_cases hlt : k < l.length
    · obtain ⟨b, off, rfl, hbw, hcl⟩ := HRD.out (by omega)
      have hcp : wr.cell? ⟨b, off + k, none⟩ = some (.int .i64 (l.getD k 0)) := (hbel.cell (p := ⟨b, off + k, none⟩) hbw).trans (hcl k hlt)
      have hm := HS.out _ (getD_mem hlt)
      have HT := Lib.hid (bump_take x l k hlt)
      have hkz : (k : Int) < (l.length : Int) := by omega
      have HTL : Hid ((((x : Int) :: (l.take k).map (bump x)).length : Int) ≤ 1001) := Lib.hid (by simp; omega)
      clear hrow hbel hcl
      generalize (x : Int) :: (l.take k).map (bump x) = pre at HROW HT HTL
      by_cases hc : l.getD k 0 < (x : Int)
      · have hb : bump x (l.getD k 0) = l.getD k 0 := by unfold bump; rw [if_pos hc]
        rw [hb] at HT
        clear hb
        generalize l.getD k 0 = y at hcp hc hm HT
        go_wp2_with (first | (at_builtin; go_must (refine wp_int rfl _ _ rfl w.heap.size w wr _ _ y _ HROW.out HBEL.out hsz (by have := HTL.out; omega) rfl rfl rfl ?_; intro v' w1 hrow1 hbel1 hg1)) | fail)
        go_roundw
        case rel => exact ⟨k + 1, by go_num, by omega, by rw [HT.out]; exact hrow1, hbel1⟩
        case measure => simp [intOf] <;> omega
      · have hb : bump x (l.getD k 0) = l.getD k 0 + 1 := by unfold bump; rw [if_neg hc]
        rw [hb] at HT
        clear hb
        generalize l.getD k 0 = y at hcp hc hm HT
        go_wp2_with (first | (at_builtin; go_must (refine wp_int rfl _ _ rfl w.heap.size w wr _ _ (y + 1) _ HROW.out HBEL.out hsz (by have := HTL.out; omega) rfl rfl rfl ?_; intro v' w1 hrow1 hbel1 hg1)) | fail)
        go_roundw
        case rel => exact ⟨k + 1, by go_num, by omega, by rw [HT.out]; exact hrow1, hbel1⟩
        case measure => simp [intOf] <;> omega
    · obtain rfl : k = l.length := by omega
      rw [List.take_length] at HROW
      clear hrow hbel
      go_wp2
      go_ret
      exact ⟨⟨_, rfl, HROW.out⟩, HBEL.out⟩

end Go.Proofs.Ythdcjldmafhcjaa

namespace Go.Proofs.Ythdcjldmafhcjaa
open Go.RowKit Plain
set_option linter.unusedVariables false

theorem perms_in (n : Nat) (h : n ≤ 4) : ∀ p ∈ permsL n, p.length ≤ 4 ∧ ∀ e ∈ p, 0 ≤ e ∧ e ≤ 1000 := by
  have h1 : (permsL n).all (fun p => decide (p.length ≤ 4) && p.all (fun e => decide (0 ≤ e) && decide (e ≤ 1000))) = true := by rcases lt5 h with rfl | rfl | rfl | rfl | rfl <;> decide +kernel
  intro p hp
  have h2 := List.all_eq_true.1 h1 p hp
  simp only [Bool.and_eq_true, decide_eq_true_eq, List.all_eq_true] at h2
  exact h2
theorem perms_small (n : Nat) (h : n ≤ 4) : Small (permsL n) := by
  refine ⟨by have := perms_le n h; omega, fun p hp => ?_⟩
  obtain ⟨h1, h2⟩ := perms_in n h p hp
  exact ⟨by omega, fun x hx => by have := h2 x hx; omega⟩
/-- Those that begin with a number below k. -/
def Plain.headsL (n k : Nat) : List (List Int) := (List.range k).flatMap fun (x : Nat) => (permsL n).map (startL (x : Int))
theorem heads_succ (n k : Nat) : headsL n (k + 1) = headsL n k ++ (permsL n).map (startL (k : Int)) := by
  unfold headsL; rw [List.range_succ, List.flatMap_append]; simp
theorem heads_all (n : Nat) : headsL n (n + 1) = permsL (n + 1) := rfl
theorem heads_len (n k : Nat) : (headsL n k).length = k * (permsL n).length := by
  induction k with
  | zero => simp [headsL]
  | succ k ih => rw [heads_succ, List.length_append, ih, List.length_map, Nat.succ_mul]
theorem map_take {α β : Type} (f : α → β) (l : List α) (d : α) (j : Nat) (h : j < l.length) : (l.take (j + 1)).map f = (l.take j).map f ++ [f (l.getD j d)] := by
  rw [List.take_succ_eq_append_getElem h, List.map_append, List.getD_eq_getElem?_getD, List.getElem?_eq_getElem h]
  rfl

theorem rowsOne {w : World} {B g s : Nat} {l : List Int} (hg : g = w.heap.size) (hB : B ≤ g) (hs : IntRow w B (.slice (some ⟨s, 0, none⟩) l.length l.length) l) :
    RowsOwn (w.alloc (.cells #[.slice (some ⟨s, 0, none⟩) l.length l.length] 34)) B (.slice (some ⟨g, 0, none⟩) 1 1) [l] := by
  subst hg
  refine ⟨[.slice (some ⟨s, 0, none⟩) l.length l.length], rfl, ?_, fun j hj => ?_, fun i j hi hj hne => ?_⟩
  · exact World.ownsRow_lit (e := 34) (size := 1) (base := B) w #[.slice (some ⟨s, 0, none⟩) l.length l.length] 1 hB (by unfold maxLen; omega) rfl
  · obtain rfl : j = 0 := by simp at hj; omega
    exact hs.alloc _
  · simp at hi hj; omega

set_option maxRecDepth 100000 in
theorem Perm.zero (w : World) :
    Calls Try.prog 19 #[.int .i64 0] w fun e w' => (∃ v, e = .returned (.tuple #[v, .bool true]) ∧ RowsOwn w' w.heap.size v (permsL 0)) ∧ Below w.heap.size w w' := by
  have HE : Hid (∀ g, g = w.heap.size → RowsOwn ((w.alloc (.cells #[] 3)).alloc (.cells #[.slice (some ⟨g, 0, none⟩) 0 0] 34)) w.heap.size (.slice (some ⟨g + 1, 0, none⟩) 1 1) [[]]) := Lib.hid (by
    rintro g rfl
    exact rowsOne (l := []) (by simp) (by simp) (rowLit w w.heap.size w.heap.size [] rfl (Nat.le_refl _) (by simp)).1)
  go_enter Try.func19, Try.ntmps19
  go_wp2
  exact bodyPost_ret (v := .tuple #[.slice (some ⟨w.heap.size + 1, 0, none⟩) 1 1, .bool true]) (by simp [results, Try.results19, go_sem]) rfl ⟨⟨_, rfl, HE.out _ rfl⟩, ((Below.refl _ _).alloc (Nat.le_refl _) _).alloc (by simp) _⟩

set_option maxRecDepth 100000 in
theorem Perm.succ (n : Nat) (hn : n ≤ 3) (ih : ∀ w, Calls Try.prog 19 #[.int .i64 n] w fun e w' => (∃ v, e = .returned (.tuple #[v, .bool true]) ∧ RowsOwn w' w.heap.size v (permsL n)) ∧ Below w.heap.size w w') (w : World) :
    Calls Try.prog 19 #[.int .i64 ((n : Int) + 1)] w fun e w' => (∃ v, e = .returned (.tuple #[v, .bool true]) ∧ RowsOwn w' w.heap.size v (permsL (n + 1))) ∧ Below w.heap.size w w' := by
  have HIH := Lib.hid ih
  have hnz : (n : Int) ≤ 3 := by omega
  have HN := Lib.hid hn
  clear ih hn
  go_enter Try.func19, Try.ntmps19
  go_wp2_with fail
  refine (HIH.out _).mono ?_
  rintro e w1 ⟨⟨v, rfl, hown⟩, hb1⟩
  have hrd := hown.rd (perms_small n (by have := HN.out; omega))
  obtain ⟨a, cap, rfl, hl, hr⟩ := hrd
  have HR := Lib.hid hr
  have HB1 := Lib.hid hb1
  have hl24 := perms_le n (by have := HN.out; omega)
  have HL := Lib.hid hl24
  have hl24z : ((permsL n).length : Int) ≤ 24 := by omega
  have hs1 := hb1.size
  clear hown hr hb1 hl hl24
  go_wp2
  go_loopw [4, 7, 9, 27, 32] (fun p _ _ i _ wr => ∃ k : Nat, i = .int .i64 (k : Int) ∧ k ≤ n + 1 ∧ RowsOwn wr w1.heap.size p (headsL n k) ∧ Below w1.heap.size w1 wr) (fun _ _ _ i _ _ => n + 1 - (intOf i).toNat)
  case atStart => exact ⟨0, rfl, by omega, RowsOwn.nil _ _, Below.refl _ _⟩
  case round =>
    obtain ⟨k, rfl, hk, hown, hbel⟩ := hrel
    have HOWN := Lib.hid hown
    have HBEL := Lib.hid hbel
    clear hown hbel
    by_cases hlt : k < n + 1
    · have hkz : (k : Int) < (n : Int) + 1 := by omega
      go_wp2
      obtain ⟨wo, rfl⟩ : ∃ wo : World, wo = wr := ⟨_, rfl⟩
      go_loopw [4, 9, 32] (fun p _ i wr => ∃ j : Nat, i = .int .i64 (j : Int) ∧ j ≤ (permsL n).length ∧ RowsOwn wr w1.heap.size p (headsL n k ++ ((permsL n).take j).map (startL (k : Int))) ∧ Below w1.heap.size w1 wr) (fun _ _ i _ => (permsL n).length - (intOf i).toNat)
      case atStart => exact ⟨0, rfl, by omega, by simpa using HOWN.out, HBEL.out⟩
      case round =>
        obtain ⟨j, rfl, hj, hown, hbel⟩ := hrel
        by_cases hlt2 : j < (permsL n).length
        · obtain ⟨b, off, rfl, hbw, hcl⟩ := HR.out (by omega)
          obtain ⟨u, hu, hi⟩ := hcl j hlt2
          obtain ⟨hp1, hp2⟩ := perms_in n (by have := HN.out; omega) _ (getD_mem' (d := []) hlt2)
          have hcp := (hbel.cell (p := ⟨b, off + j, none⟩) hbw).trans hu
          have hi2 := hi.below (w' := wr) (hbel.mono (Nat.le_refl _))
          obtain ⟨ad, cp, rfl, _⟩ := id hi2
          have HI := Lib.hid hi2
          have HS := Lib.hid hp2
          have HT := Lib.hid (map_take (startL (k : Int)) (permsL n) [] j hlt2)
          have hpl : ((permsL n).getD j []).length ≤ 4 := hp1
          have HPL := Lib.hid hpl
          have HOWN2 := Lib.hid hown
          have HBEL2 := Lib.hid hbel
          have HK := Lib.hid hk
          have HJ := Lib.hid hlt2
          have hjz : (j : Int) < ((permsL n).length : Int) := by omega
          have HLEN : Hid ((headsL n k ++ ((permsL n).take j).map (startL (k : Int))).length ≤ 10000) := Lib.hid (by
            rw [List.length_append, heads_len, List.length_map, List.length_take]
            have h1 := HL.out
            have h2 := HN.out
            have h3 : k * (permsL n).length ≤ 4 * 24 := Nat.mul_le_mul (by omega) h1
            omega)
          have hwr := hbel.size
          clear hcl hu hi hi2 hp1 hp2 hpl hown hbel hlt2 hlt hk hj
          obtain ⟨pre, hpre⟩ : ∃ pre, pre = headsL n k ++ ((permsL n).take j).map (startL (k : Int)) := ⟨_, rfl⟩
          rw [← hpre] at HOWN2 HLEN
          have HPRE := Lib.hid hpre
          clear hpre
          generalize (permsL n).getD j [] = y at hcp HI HS HT HPL
          go_wp2_with fail
          refine (Perm.start k y ad y.length cp (by have := HK.out; have := HN.out; omega) (by have := HPL.out; omega) HS.out _ HI.out).mono ?_
          rintro e w2 ⟨⟨u, rfl, hrow⟩, hb2⟩
          obtain ⟨ad2, cp2, rfl⟩ : ∃ ad2 cp2, u = .slice ad2 (y.length + 1) cp2 := by
            rcases hrow.shape with ⟨_, h⟩ | ⟨g, cp2, h, _⟩
            · simp [startL] at h
            · exact ⟨some ⟨g, 0, none⟩, cp2, by rw [h]; simp [startL]⟩
          have HROW := Lib.hid hrow
          have HB2 := Lib.hid hb2
          have HB12 := Lib.hid (bstep HBEL2.out hb2)
          have hw2 := hb2.size
          clear hrow hb2
          go_wp2_with (first | (at_builtin; go_must (refine wp_row rfl _ _ rfl w1.heap.size w1 wr w2 _ ad2 (y.length + 1) cp2 _ (startL (k : Int) y) _ HOWN2.out HB2.out HROW.out HB12.out hwr HLEN.out rfl rfl rfl ?_; intro v' w3 hown3 hbel3)) | fail)
          go_roundw
          case rel => exact ⟨j + 1, by go_num, by have := HJ.out; omega, by rw [HT.out, ← List.append_assoc, ← HPRE.out]; exact hown3, hbel3⟩
          case measure => simp [intOf] <;> omega
        · obtain rfl : j = (permsL n).length := by omega
          rw [List.take_length] at hown
          have HO := Lib.hid hown
          have HB := Lib.hid hbel
          clear hown hbel
          go_wp2
          go_roundw
          case rel => exact ⟨k + 1, by go_num, by omega, by rw [heads_succ]; exact HO.out, HB.out⟩
          case measure => simp [intOf] <;> omega
    · obtain rfl : k = n + 1 := by omega
      rw [heads_all] at HOWN
      have HW := Lib.hid (HOWN.out.base hs1)
      go_wp2
      exact bodyPost_ret (by simp [results, Try.results19, go_sem]) rfl ⟨⟨_, rfl, HW.out⟩, bstep HB1.out HBEL.out⟩

theorem Perm.impl_in (n : Nat) (hn : n ≤ 4) : ∀ w, Calls Try.prog 19 #[.int .i64 n] w fun e w' => (∃ v, e = .returned (.tuple #[v, .bool true]) ∧ RowsOwn w' w.heap.size v (permsL n)) ∧ Below w.heap.size w w' := by
  induction n with
  | zero => exact Perm.zero
  | succ n ih => exact Perm.succ n (by omega) (ih (by omega))

theorem Perm.impl_out (n : Int) (hn : ¬ (0 ≤ n ∧ n ≤ 4)) (w : World) : Calls Try.prog 19 #[.int .i64 n] w fun e w' => e = .returned (.tuple #[.slice none 0 0, .bool false]) ∧ w = w' := by
  go_enter Try.func19, Try.ntmps19
  by_cases h0 : n < 0
  · go_wp2
    exact bodyPost_ret (v := .tuple #[.slice none 0 0, .bool false]) (by simp [results, Try.results19, go_sem]) rfl ⟨rfl, rfl⟩
  · have h4 : 4 < n := by omega
    go_wp2
    exact bodyPost_ret (v := .tuple #[.slice none 0 0, .bool false]) (by simp [results, Try.results19, go_sem]) rfl ⟨rfl, rfl⟩

end Go.Proofs.Ythdcjldmafhcjaa
