/-
  Goroutines, part T: programs with the same tables: what is read off the tables is the same.
  Goroutines, part A: programs that are read as trees of operations. What a tree does in a world some of whose blocks are blind, it does in the world itself; it depends on the tape only where it draws.
  Goroutines, part B: the operations whose trees are tame.
  Goroutines, part C: tame trees, the rest: addresses, numbers, built-in functions; whole operations.
  Goroutines, part D: whole operations.
  Goroutines, part E: the built-in functions, conversions; which operations are tame.
  Goroutines, part F: one step of a goroutine, in a program and in its twin.
-/
import Derived.Conc.Beside

namespace Go.Veiled
set_option linter.unusedSimpArgs false
set_option linter.unusedSectionVars false
set_option linter.unusedVariables false

section
variable {P Q : Program} (h : P.toTables = Q.toTables)
include h
theorem info_eq (t : TypeId) : P.info? t = Q.info? t := by rw [h]
theorem underlying_eq (t : TypeId) : P.underlying t = Q.underlying t := by unfold Program.underlying; simp only [info_eq h]
theorem cellsOf_eq (t : TypeId) : P.cellsOf t = Q.cellsOf t := by unfold Program.cellsOf; rw [info_eq h]
theorem bytesOf_eq (t : TypeId) : P.bytesOf t = Q.bytesOf t := by unfold Program.bytesOf; rw [info_eq h]
theorem depth_eq : P.depth = Q.depth := by unfold Program.depth; rw [h]
theorem byteOfCell_eq : ∀ (d : Nat) (t : TypeId) (off : Nat), byteOfCell P d t off = byteOfCell Q d t off := by
  intro d
  induction d with
  | zero => intro t off; rfl
  | succ d ih => intro t off; simp only [byteOfCell, underlying_eq h, cellsOf_eq h, bytesOf_eq h, ih]
theorem cellHolding_eq : ∀ (d : Nat) (t : TypeId) (b : Nat), cellHolding P d t b = cellHolding Q d t b := by
  intro d
  induction d with
  | zero => intro t off; rfl
  | succ d ih => intro t off; simp only [cellHolding, underlying_eq h, cellsOf_eq h, bytesOf_eq h, ih]
theorem plainCell_eq : ∀ (d : Nat) (t : TypeId) (b : Nat), plainCell P d t b = plainCell Q d t b := by
  intro d
  induction d with
  | zero => intro t off; rfl
  | succ d ih => intro t off; simp only [plainCell, underlying_eq h, cellsOf_eq h, ih]
theorem tight_eq : ∀ (d : Nat) (t : TypeId), tight P d t = tight Q d t := by
  intro d
  induction d with
  | zero => intro t; rfl
  | succ d ih => intro t; simp only [tight, underlying_eq h, bytesOf_eq h, ih]
theorem cellOfByte_eq : ∀ (d : Nat) (t : TypeId) (b : Nat), cellOfByte P d t b = cellOfByte Q d t b := by
  intro d
  induction d with
  | zero => intro t off; rfl
  | succ d ih => intro t off; simp only [cellOfByte, underlying_eq h, cellsOf_eq h, bytesOf_eq h, ih]
theorem cellAtBytes_eq (d : Nat) (e : TypeId) (c o : Nat) (b : Int) : cellAtBytes P d e c o b = cellAtBytes Q d e c o b := by
  simp only [cellAtBytes, cellsOf_eq h, bytesOf_eq h, byteOfCell_eq h, cellOfByte_eq h]
theorem seenCells_eq (c : Array Value) (e : TypeId) : ∀ (f x s : Nat), seenCells P c e f x s = seenCells Q c e f x s := by
  intro f
  induction f with
  | zero => intro x s; rfl
  | succ d ih => intro x s; simp only [seenCells, cellsOf_eq h, bytesOf_eq h, cellHolding_eq h, depth_eq h, ih]
theorem seen_eq (w : World) (a : Addr) (u : TypeId) (k : Addr) (b : Bool) : w.seen P a u k b = w.seen Q a u k b := by
  simp only [World.seen, cellsOf_eq h, bytesOf_eq h, depth_eq h, plainCell_eq h, byteOfCell_eq h, seenCells_eq h]
theorem viewLoad_eq (w : World) (a : Addr) (u : TypeId) (k : Addr) (b : Bool) : w.viewLoad P a u k b = w.viewLoad Q a u k b := by
  simp only [World.viewLoad, seen_eq h]
theorem viewStore_eq (w : World) (a : Addr) (u : TypeId) (k : Addr) (v : Value) (b : Bool) : w.viewStore P a u k v b = w.viewStore Q a u k v b := by
  simp only [World.viewStore, seen_eq h, tight_eq h, depth_eq h]
theorem farLoad_eq (w : World) (a : Addr) (b : Bool) : w.farLoad P a b = w.farLoad Q a b := by
  simp only [World.farLoad, viewLoad_eq h]
theorem farStore_eq (w : World) (a : Addr) (x : Value) (b : Bool) : w.farStore P a x b = w.farStore Q a x b := by
  simp only [World.farStore, viewStore_eq h]
end

theorem plainCell_bytes (p : Program) : ∀ (d : Nat) (t : TypeId) (off : Nat) (x : Value), plainCell p d t off = some x → ∃ bs, x.bytes? = some bs ∧ 1 ≤ bs.length := by
  intro d
  induction d with
  | zero => intro t off x hx; cases hx
  | succ d ih =>
    intro t off x hx
    simp only [plainCell] at hx
    split at hx
    · obtain ⟨f, _, hf⟩ := Array.exists_of_findSome?_eq_some hx
      split at hf
      · exact ih _ _ _ hf
      · cases hf
    · split at hx
      · cases hx
      · exact ih _ _ _ hx
    · split at hx <;> cases hx
      exact ⟨_, rfl, by simp⟩
    · split at hx
      · cases hx
        rename_i k _ _
        exact ⟨_, rfl, by cases k <;> simp [IntKind.bits, leBytes]⟩
      · cases hx
    · split at hx
      · cases hx
        rename_i k _ _
        exact ⟨_, rfl, by cases k <;> simp [FloatKind.bytes, leBytes]⟩
      · cases hx
    · split at hx
      · cases hx
        rename_i k _ _
        exact ⟨_, rfl, by cases k <;> simp [FloatKind.bytes, leBytes]⟩
      · cases hx
    · cases hx

theorem seenCells_blind (p : Program) (e : TypeId) (f x s : Nat) (h : x < s) : ∃ m, seenCells p #[] e (f + 1) x s = .error m := by
  simp only [seenCells]
  rw [if_neg (by omega)]
  split
  · exact ⟨_, rfl⟩
  · split
    · exact ⟨_, rfl⟩
    · exact ⟨_, rfl⟩

theorem seen_key (p : Program) (e : TypeId) {u : TypeId} {o : Nat} {like : Value} {sz : Nat} (h1 : plainCell p p.depth u o = some like) (h2 : like.bytes?.map (fun x => x.length) = some sz) (x : Nat) (y : List (Nat × Nat × List UInt8)) :
    seenCells p #[] e (sz + 1) x (x + sz) ≠ .ok y := by
  obtain ⟨bs, hb, hl⟩ := plainCell_bytes p _ _ _ _ h1
  rw [hb] at h2
  simp only [Option.map_some, Option.some.injEq] at h2
  obtain ⟨m, hm⟩ := seenCells_blind p e sz x (x + sz) (by omega)
  rw [hm]
  intro h; cases h

/-- Through a view nothing is seen of a row without cells. -/
theorem seen_blind (p : Program) {w : World} {a : Addr} {e : TypeId} {f : Nat × Nat} (hb : w.heap[a.block]? = some (.cells #[] e f)) (u : TypeId) (k : Addr) (b : Bool) (y : Array Value × TypeId × (Nat × Nat) × Nat × Value × List (Nat × Nat × List UInt8)) : w.seen p a u k b ≠ .ok y := by
  intro h
  unfold World.seen at h
  simp only [bind, Except.bind, hb, pure, Except.pure] at h
  repeat' split at h
  all_goals first | (cases h; done) | (exact seen_key p e (by assumption) (by assumption) _ _ (by assumption))

theorem seen_of (p : Program) {v w : World} {a : Addr} (e : v.heap[a.block]? = w.heap[a.block]?) (u : TypeId) (k : Addr) (b : Bool) : w.seen p a u k b = v.seen p a u k b := by
  unfold World.seen
  rw [e]
theorem viewLoad_seen {p : Program} {w : World} {at_ : Addr} {u : TypeId} {a : Addr} {b : Bool} {y : Value × List Addr} (h : w.viewLoad p at_ u a b = .ok y) : (∃ z, w.seen p at_ u a b = .ok z) ∧ ∀ x ∈ y.2, x.block = at_.block := by
  unfold World.viewLoad at h
  cases hs : w.seen p at_ u a b with
  | error m => rw [hs] at h; cases h
  | ok z =>
    refine ⟨⟨z, rfl⟩, ?_⟩
    rw [hs] at h
    obtain ⟨c, e, f, fst, like, cells⟩ := z
    simp only [bind, Except.bind, pure, Except.pure] at h
    split at h
    · cases h
      intro x hx
      simp only [List.mem_map] at hx
      obtain ⟨_, _, rfl⟩ := hx
      rfl
    · cases h
/-- The same store, as an object. -/
theorem viewStore_of {p : Program} {v v' w : World} {at_ : Addr} {u : TypeId} {a : Addr} {x : Value} {b : Bool} {l : List Addr} (e : v.heap[at_.block]? = w.heap[at_.block]?) (h : v.viewStore p at_ u a x b = .ok (v', l)) :
    (∃ z, v.seen p at_ u a b = .ok z) ∧ (∀ x ∈ l, x.block = at_.block) ∧ ∃ c t f, v' = { v with heap := v.heap.setIfInBounds at_.block (.cells c t f) } ∧ w.viewStore p at_ u a x b = .ok ({ w with heap := w.heap.setIfInBounds at_.block (.cells c t f) }, l) := by
  unfold World.viewStore at h ⊢
  rw [seen_of p e]
  cases hs : v.seen p at_ u a b with
  | error m =>
    rw [hs] at h
    simp only [bind, Except.bind, pure, Except.pure] at h
    repeat' split at h
    all_goals cases h
  | ok z =>
    refine ⟨⟨z, rfl⟩, ?_⟩
    rw [hs] at h
    obtain ⟨c, t, f, fst, like, cells⟩ := z
    simp only [bind, Except.bind, pure, Except.pure] at h ⊢
    by_cases ht : (!tight p p.depth u) = true
    · rw [if_pos ht] at h; cases h
    · rw [if_neg ht] at h ⊢
      cases hb : x.bytes? with
      | none => rw [hb] at h; cases h
      | some bytes =>
        simp only [hb] at h ⊢
        split at h
        · cases h
        · rename_i hz
          rw [if_neg hz]
          split at h
          · cases h
          · rename_i c' hc
            simp only [Except.ok.injEq, Prod.mk.injEq] at h
            obtain ⟨rfl, rfl⟩ := h
            refine ⟨?_, _, _, _, rfl, ?_⟩
            · intro x hx
              simp only [List.mem_map] at hx
              obtain ⟨_, _, rfl⟩ := hx
              rfl
            · rfl

theorem seen_cells {p : Program} {w : World} {at_ : Addr} {u : TypeId} {a : Addr} {b : Bool} {z : Array Value × TypeId × (Nat × Nat) × Nat × Value × List (Nat × Nat × List UInt8)} (h : w.seen p at_ u a b = .ok z) :
    ∃ c e f, w.heap[at_.block]? = some (.cells c e f) ∧ c ≠ #[] := by
  cases ho : w.heap[at_.block]? with
  | none =>
    unfold World.seen at h
    simp only [bind, Except.bind, ho, pure, Except.pure] at h
    repeat' split at h
    all_goals cases h
  | some o =>
    cases o with
    | cells c e f =>
      refine ⟨c, e, f, rfl, ?_⟩
      rintro rfl
      exact seen_blind p ho _ _ _ _ h
    | _ =>
      unfold World.seen at h
      simp only [bind, Except.bind, ho, pure, Except.pure] at h
      repeat' split at h
      all_goals cases h
end Go.Veiled

namespace Go.Veiled
set_option linter.unusedSimpArgs false
set_option linter.unusedSectionVars false
set_option linter.unusedVariables false
open Go.Conc

/-- The same world over another tape. -/
def _root_.Go.World.retape (w : World) (T : Nat → Question → Nat) (d : Nat) : World := { w with tape := T, drawn := d }

def blindObj : Option Obj → Prop
  | some (.cells c _ _) => c = #[]
  | _ => False

theorem blindObj_spec {o : Option Obj} (h : blindObj o) : ∃ e f, o = some (.cells #[] e f) := by
  match o, h with
  | some (.cells c e f), h => exact ⟨e, f, by rw [show c = #[] from h]⟩

def Blind (v : World) (r : Nat) : Prop := blindObj v.heap[r]?

/-- v is w, some blocks of which are blind. -/
structure Veil (Lo : Nat → Option Obj) (v w : World) : Prop where
  tape : v.tape = w.tape
  drawn : v.drawn = w.drawn
  os : v.os = w.os
  output : v.output = w.output
  size : v.heap.size = w.heap.size
  orig : ∀ r : Nat, v.heap[r]? = some (Obj.coro none) → w.heap[r]? = Lo r
  elder : ∀ r : Nat, Lo r ≠ none → r < v.heap.size ∧ (v.heap[r]? = w.heap[r]? ∨ v.heap[r]? = some (Obj.coro none))
  block : ∀ r : Nat, v.heap[r]? = w.heap[r]? ∨ (∃ e f c f', v.heap[r]? = some (Obj.cells #[] e f) ∧ w.heap[r]? = some (Obj.cells c e f')) ∨ ∃ l, v.heap[r]? = some (Obj.coro none) ∧ w.heap[r]? = some (Obj.loop l)

/-- No object is the state of a range over a function. -/
def noLoop : Obj → Prop
  | .loop _ => False
  | _ => True
/-- What a tree may make. -/
def fresh : Obj → Prop
  | .loop _ => False
  | .coro none => False
  | _ => True
theorem fresh_loop {o : Obj} (h : fresh o) : noLoop o := by
  cases o <;> first | exact h.elim | trivial
def NoLoop (v : World) : Prop := ∀ (r : Nat) (o : Obj), v.heap[r]? = some o → noLoop o

/-- A tree that only looks, and comes to a halt, not by a panic. -/
def Doom (Q : Program) {α : Type} : Sem α → Prop
  | .halt (.stuck _) => True
  | .halt (.unsupported _) => True
  | .program k => Doom Q (k Q)
  | .shape _ k => ∀ s, Doom Q (k s)
  | .frozen _ k => ∀ b, Doom Q (k b)
  | .mark _ k => Doom Q k
  | _ => False
/-- A tree that only looks. -/
def Looks (Q : Program) {α : Type} : Sem α → Prop
  | .pure _ => True
  | .halt (.stuck _) => True
  | .halt (.unsupported _) => True
  | .shape _ k => ∀ s, Looks Q (k s)
  | .frozen _ k => ∀ b, Looks Q (k b)
  | _ => False

/-- What a tree may hold: it looks at no shape and at nothing outside; both programs tell it the same; no marks but one. -/
def Tame (Q P : Program) {α : Type} : Sem α → Prop
  | .pure _ => True
  | .load _ _ k => ∀ v, Tame Q P (k v)
  | .store _ _ _ k => Tame Q P k
  | .new o k => fresh o ∧ ∀ r, Tame Q P (k r)
  | .shape _ k => (∀ s, Doom Q (k s)) ∨ ((∀ s, Tame Q P (k s)) ∧ ∀ e n, k (some (e, 0)) = k (some (e, n)) ∨ Doom Q (k (some (e, 0))))
  | .freeze _ _ _ => False
  | .frozen _ k => ∀ b, Doom Q (k b)
  | .getObj _ k => (∀ o, Tame Q P (k o)) ∧ ∀ l, k (.coro none) = k (.loop l) ∨ Doom Q (k (.coro none))
  | .setObj _ o k => fresh o ∧ Tame Q P k
  | .choose _ k => ∀ n, Tame Q P (k n)
  | .sys _ _ => False
  | .program k => k P = k Q ∧ Tame Q P (k Q)
  | .mark m k => m = .noRoom ∧ Tame Q P k
  | .halt (.panic _) => True
  | .halt (.stuck _) => True
  | .halt (.unsupported _) => True
  | .halt _ => False

section
variable {Q P : Program} {α β : Type}
theorem doom_bind {s : Sem α} {f : α → Sem β} (h : Doom Q s) : Doom Q (s.bind f) := by
  induction s with
  | halt x => cases x <;> exact h
  | program k ih => exact ih Q h
  | shape r k ih => exact fun s => ih s (h s)
  | frozen a k ih => exact fun b => ih b (h b)
  | mark m k ih => exact ih h
  | _ => exact h.elim
theorem looks_doom {s : Sem α} {f : α → Sem β} (h : Looks Q s) (hf : ∀ a, Doom Q (f a)) : Doom Q (s.bind f) := by
  induction s with
  | pure a => exact hf a
  | halt x => cases x <;> exact h
  | shape r k ih => exact fun s => ih s (h s)
  | frozen a k ih => exact fun b => ih b (h b)
  | _ => exact h.elim
theorem looks_bind {s : Sem α} {f : α → Sem β} (h : Looks Q s) (hf : ∀ a, Looks Q (f a)) : Looks Q (s >>= f) := by
  show Looks Q (s.bind f)
  induction s with
  | pure a => exact hf a
  | halt x => cases x <;> exact h
  | shape r k ih => exact fun s => ih s (h s)
  | frozen a k ih => exact fun b => ih b (h b)
  | _ => exact h.elim
/-- Looking ahead of a halt. -/
theorem looks_tame {s : Sem α} {f : α → Sem β} (h : Looks Q s) (hf : ∀ a, Doom Q (f a)) (ht : ∀ a, Tame Q P (f a)) : Tame Q P (s >>= f) := by
  show Tame Q P (s.bind f)
  cases s with
  | pure a => exact ht a
  | halt x => cases x <;> first | exact h.elim | trivial
  | shape r k => exact .inl fun s => looks_doom (h s) hf
  | frozen a k => exact fun b => looks_doom (h b) hf
  | _ => exact h.elim
theorem Tame.bind' {s : Sem α} {f : α → Sem β} (h : Tame Q P s) (hf : ∀ a, Tame Q P (f a)) : Tame Q P (s.bind f) := by
  induction s with
  | pure a => exact hf a
  | load m a k ih => exact fun v => ih v (h v)
  | store m a v k ih => exact ih h
  | new o k ih => exact ⟨h.1, fun r => ih r (h.2 r)⟩
  | shape r k ih => exact h.imp (fun x s => doom_bind (x s)) fun h => ⟨fun s => ih s (h.1 s), fun e n => (h.2 e n).imp (fun x => by show (k (some (e, 0))).bind f = (k (some (e, n))).bind f; rw [x]) doom_bind⟩
  | freeze a n k ih => exact h.elim
  | frozen a k ih => exact fun b => doom_bind (h b)
  | getObj r k ih => exact ⟨fun o => ih o (h.1 o), fun l => (h.2 l).imp (fun x => by show (k (.coro none)).bind f = (k (.loop l)).bind f; rw [x]) doom_bind⟩
  | setObj r o k ih => exact ⟨h.1, ih h.2⟩
  | choose q k ih => exact fun n => ih n (h n)
  | sys c k ih => exact h.elim
  | program k ih => exact ⟨by show (k P).bind f = (k Q).bind f; rw [h.1], ih _ h.2⟩
  | mark m k ih => exact ⟨h.1, ih h.2⟩
  | halt x => cases x <;> exact h
theorem Tame.bind {s : Sem α} {f : α → Sem β} (h : Tame Q P s) (hf : ∀ a, Tame Q P (f a)) : Tame Q P (s >>= f) := Tame.bind' h hf
theorem Tame.pure' (a : α) : Tame Q P (Pure.pure a : Sem α) := trivial
theorem Tame.map {s : Sem α} {f : α → β} (h : Tame Q P s) : Tame Q P (f <$> s) := Tame.bind' h fun _ => trivial
end

/-- How a run comes out, in both worlds. -/
inductive Alike {α : Type} (Lo : Nat → Option Obj) : Result α → Result α → Prop
  | ok (a : α) (v w : World) : Veil Lo v w → NoLoop v → Alike Lo (.ok a v) (.ok a w)
  | panic (x : Value) (v w : World) : Veil Lo v w → NoLoop v → Alike Lo (.halt (.panic x) v) (.halt (.panic x) w)

def Result.fair {α : Type} : Result α → Prop
  | .ok _ _ => True
  | .halt (.panic _) _ => True
  | _ => False
def Result.at {α : Type} : Result α → World
  | .ok _ w => w
  | .halt _ w => w

/-- An entry that names no blind block. -/
def Plain (Bl : Nat → Prop) (n : Nat) (e : Event) : Prop :=
  match e.loc with
  | .cell a => ¬ Bl a.block ∧ a.block < n
  | .obj r => ¬ Bl r ∧ r < n
  | .mark .noRoom => True
  | _ => False

theorem Plain.mono {Bl : Nat → Prop} {n m : Nat} {e : Event} (h : Plain Bl n e) (hn : n ≤ m) : Plain Bl m e := by
  obtain ⟨l, wr, sy⟩ := e
  cases l with
  | cell a => exact ⟨h.1, Nat.lt_of_lt_of_le h.2 hn⟩
  | obj r => exact ⟨h.1, Nat.lt_of_lt_of_le h.2 hn⟩
  | output => exact h
  | goroutines => exact h
  | mark k => cases k <;> exact h

/-! ### worlds -/
section
variable {v w : World} {Lo : Nat → Option Obj}

theorem cell_lit {v : World} {a : Addr} {x : Value} (h : v.cell? a = some x) : ∃ c e f, v.heap[a.block]? = some (.cells c e f) ∧ c ≠ #[] := by
  unfold World.cell? at h
  split at h
  · rename_i c e f hc
    refine ⟨c, e, f, hc, ?_⟩
    rintro rfl
    split at h <;> simp at h
  · cases h

theorem lit_not {v : World} {a : Addr} {x : Value} (h : v.cell? a = some x) : ¬ Blind v a.block := by
  obtain ⟨c, e, f, hc, hne⟩ := cell_lit h
  intro hb
  unfold Blind at hb
  rw [hc] at hb
  exact hne hb

theorem lt_of_get {v : World} {r : Nat} {o : Obj} (h : v.heap[r]? = some o) : r < v.heap.size := (Array.getElem?_eq_some_iff.1 h).1
theorem cell_low {v : World} {a : Addr} {x : Value} (h : v.cell? a = some x) : a.block < v.heap.size := by
  obtain ⟨_, _, _, hc, _⟩ := cell_lit h
  exact lt_of_get hc

theorem blind_of {v : World} {r : Nat} {e : TypeId} {f : Nat × Nat} (h : v.heap[r]? = some (.cells #[] e f)) : Blind v r := by unfold Blind; rw [h]; rfl
theorem Veil.lit' (h : Veil Lo v w) {r : Nat} (hn : ¬ Blind v r) : v.heap[r]? = w.heap[r]? ∨ ∃ l, v.heap[r]? = some (Obj.coro none) ∧ w.heap[r]? = some (Obj.loop l) := by
  rcases h.block r with e | ⟨_, _, _, _, x, _⟩ | e
  · exact .inl e
  · exact absurd (blind_of x) hn
  · exact .inr e
theorem Veil.lit (h : Veil Lo v w) {r : Nat} (hn : ¬ Blind v r) (hc : v.heap[r]? ≠ some (Obj.coro none)) : v.heap[r]? = w.heap[r]? := (h.lit' hn).resolve_right fun ⟨_, x, _⟩ => hc x
theorem Veil.cell (h : Veil Lo v w) {a : Addr} {x : Value} (hx : v.cell? a = some x) : w.cell? a = some x := by
  have := h.lit (lit_not hx) (by obtain ⟨c, e, f, hc, _⟩ := cell_lit hx; rw [hc]; simp)
  unfold World.cell? at hx ⊢
  rw [← this]; exact hx
theorem Veil.frozen (h : Veil Lo v w) {a : Addr} {x : Value} (hx : v.cell? a = some x) : w.frozen? a = v.frozen? a := by
  unfold World.frozen?
  rw [h.lit (lit_not hx) (by obtain ⟨c, e, f, hc, _⟩ := cell_lit hx; rw [hc]; simp)]

theorem setCell_get (v : World) (a : Addr) (x : Value) (r : Nat) : (v.setCell a x).heap[r]? = if a.block = r then (v.heap[r]?).map (fun
      | .cells c elem frozen => .cells (if a.spot.isSome then c else c.setIfInBounds a.off x) elem frozen
      | o => o) else v.heap[r]? := by
  simp [World.setCell, Array.getElem?_modify]
  rfl

theorem setCell_blind {v : World} {a : Addr} {x : Value} {r : Nat} : Blind (v.setCell a x) r ↔ Blind v r := by
  unfold Blind
  rw [setCell_get]
  split
  · cases v.heap[r]? with
    | none => exact Iff.rfl
    | some o =>
      cases o with
      | cells c e f =>
        show (if a.spot.isSome = true then c else c.setIfInBounds a.off x) = #[] ↔ c = #[]
        split
        · exact Iff.rfl
        · constructor
          · intro h
            have := congrArg Array.size h
            simp at this
            exact this
          · rintro rfl; simp
      | _ => exact Iff.rfl
  · exact Iff.rfl

theorem Veil.setCell (h : Veil Lo v w) (a : Addr) (x : Value) : Veil Lo (v.setCell a x) (w.setCell a x) := by
  refine ⟨h.tape, h.drawn, h.os, h.output, by simp [World.setCell, h.size], fun r hr => ?_, fun r hr => ?_, fun r => ?_⟩
  · have h1 : v.heap[r]? = some (Obj.coro none) := by
      rw [setCell_get] at hr
      split at hr
      · cases hv : v.heap[r]? with
        | none => rw [hv] at hr; cases hr
        | some o =>
          rw [hv] at hr
          cases o <;> first | (cases hr; done) | (cases hr; rfl) | exact hr
      · exact hr
    have h2 := h.orig r h1
    rw [setCell_get]
    split
    · rcases h.block r with e | ⟨e, f, c, f', e1, e2⟩ | ⟨l, e1, e2⟩
      · rw [← e, h1] at h2 ⊢; exact h2
      · rw [h1] at e1; cases e1
      · rw [e2] at h2 ⊢; exact h2
    · exact h2
  · obtain ⟨h1, h2⟩ := h.elder r hr
    refine ⟨by simpa [World.setCell] using h1, h2.imp (fun e => by rw [setCell_get, setCell_get, e]) fun e => ?_⟩
    rw [setCell_get, e]
    split <;> rfl
  rcases h.block r with e | ⟨e, f, c, f', e1, e2⟩ | ⟨l, e1, e2⟩
  · left; rw [setCell_get, setCell_get, e]
  · right; left
    rw [setCell_get, setCell_get, e1, e2]
    split
    · refine ⟨e, f, _, f', ?_, rfl⟩
      show some (Obj.cells (if a.spot.isSome = true then #[] else #[].setIfInBounds a.off x) e f) = _
      split <;> simp
    · exact ⟨e, f, c, f', rfl, rfl⟩
  · right; right
    rw [setCell_get, setCell_get, e1, e2]
    split <;> exact ⟨l, rfl, rfl⟩
theorem NoLoop.setCell (h : NoLoop v) (a : Addr) (x : Value) : NoLoop (v.setCell a x) := by
  intro r o ho
  rw [setCell_get] at ho
  split at ho
  · cases hv : v.heap[r]? with
    | none => rw [hv] at ho; cases ho
    | some o' =>
      rw [hv] at ho
      have := h r o' hv
      cases o' <;> first | (cases ho; exact this) | (cases ho; trivial)
  · exact h r o ho
theorem push_get (v : World) (o : Obj) (r : Nat) : ({ v with heap := v.heap.push o } : World).heap[r]? = if r = v.heap.size then some o else v.heap[r]? := by
  simp [Array.getElem?_push]
theorem push_blind {v : World} {o : Obj} {r : Nat} (h : Blind v r) : Blind { v with heap := v.heap.push o } r := by
  unfold Blind at *
  rw [push_get]
  split
  · rename_i e
    subst e
    simp [blindObj] at h
  · exact h
theorem Veil.push (h : Veil Lo v w) {o : Obj} (ho : fresh o) : Veil Lo { v with heap := v.heap.push o } { w with heap := w.heap.push o } := by
  refine ⟨h.tape, h.drawn, h.os, h.output, by simp [h.size], fun r hr => ?_, fun r hr => ?_, fun r => ?_⟩
  · rw [push_get] at hr ⊢
    rw [← h.size]
    split at hr
    · cases hr; exact ho.elim
    · rename_i hne
      rw [if_neg hne]
      exact h.orig r hr
  · obtain ⟨h1, h2⟩ := h.elder r hr
    have hne : r ≠ v.heap.size := by omega
    refine ⟨by simp; omega, ?_⟩
    rw [push_get, push_get, ← h.size, if_neg hne, if_neg hne]
    exact h2
  rcases h.block r with e | ⟨e, f, c, f', e1, e2⟩ | ⟨l, e1, e2⟩
  · left; rw [push_get, push_get, h.size, e]
  · right; left
    have hr : r ≠ v.heap.size := by
      rintro rfl
      simp at e1
    have hr' : r ≠ w.heap.size := by rw [← h.size]; exact hr
    exact ⟨e, f, c, f', by rw [push_get, if_neg hr]; exact e1, by rw [push_get, if_neg hr']; exact e2⟩
  · right; right
    have hr : r ≠ v.heap.size := by
      rintro rfl
      simp at e1
    have hr' : r ≠ w.heap.size := by rw [← h.size]; exact hr
    exact ⟨l, by rw [push_get, if_neg hr]; exact e1, by rw [push_get, if_neg hr']; exact e2⟩
theorem NoLoop.push (h : NoLoop v) {o : Obj} (ho : noLoop o) : NoLoop { v with heap := v.heap.push o } := by
  intro r o' ho'
  rw [push_get] at ho'
  split at ho'
  · cases ho'; exact ho
  · exact h r o' ho'
theorem set_get (v : World) (k : Nat) (o : Obj) (r : Nat) : ({ v with heap := v.heap.setIfInBounds k o } : World).heap[r]? = if k = r then (if k < v.heap.size then some o else none) else v.heap[r]? := by
  simp only [Array.getElem?_setIfInBounds]
theorem set_blind {v : World} {k : Nat} {o : Obj} {r : Nat} (hk : ¬ Blind v k) (h : Blind v r) : Blind { v with heap := v.heap.setIfInBounds k o } r := by
  unfold Blind at *
  rw [set_get]
  split
  · rename_i e; subst e; exact absurd h hk
  · exact h
theorem Veil.setObj (h : Veil Lo v w) {k : Nat} {o : Obj} (ho : fresh o) (hk : ¬ Blind v k) : Veil Lo { v with heap := v.heap.setIfInBounds k o } { w with heap := w.heap.setIfInBounds k o } := by
  refine ⟨h.tape, h.drawn, h.os, h.output, by simp [h.size], fun r hr => ?_, fun r hr => ?_, fun r => ?_⟩
  · rw [set_get] at hr ⊢
    split at hr
    · split at hr
      · cases hr; exact ho.elim
      · cases hr
    · rename_i hne
      rw [if_neg hne]
      exact h.orig r hr
  · obtain ⟨h1, h2⟩ := h.elder r hr
    refine ⟨by simpa using h1, ?_⟩
    rw [set_get, set_get, h.size]
    split
    · exact .inl rfl
    · exact h2
  rcases h.block r with e | ⟨e, f, c, f', e1, e2⟩ | ⟨l, e1, e2⟩
  · left; rw [set_get, set_get, h.size, e]
  · right; left
    have hr : k ≠ r := by
      rintro rfl
      exact hk (blind_of e1)
    exact ⟨e, f, c, f', by rw [set_get, if_neg hr]; exact e1, by rw [set_get, if_neg hr]; exact e2⟩
  · by_cases hr : k = r
    · left; rw [set_get, set_get, if_pos hr, if_pos hr, h.size]
    · right; right
      exact ⟨l, by rw [set_get, if_neg hr]; exact e1, by rw [set_get, if_neg hr]; exact e2⟩
theorem NoLoop.setObj (h : NoLoop v) {k : Nat} {o : Obj} (ho : noLoop o) : NoLoop { v with heap := v.heap.setIfInBounds k o } := by
  intro r o' ho'
  rw [set_get] at ho'
  split at ho'
  · split at ho'
    · cases ho'; exact ho
    · cases ho'
  · exact h r o' ho'
theorem Veil.draw (h : Veil Lo v w) : Veil Lo { v with drawn := v.drawn + 1 } { w with drawn := w.drawn + 1 } :=
  ⟨h.tape, by show v.drawn + 1 = w.drawn + 1; rw [h.drawn], h.os, h.output, h.size, h.orig, h.elder, h.block⟩


theorem Veil.shape (h : Veil Lo v w) (r : Nat) : v.shape? r = w.shape? r ∨ ∃ e n, v.shape? r = some (e, 0) ∧ w.shape? r = some (e, n) := by
  unfold World.shape?
  rcases h.block r with e | ⟨e, f, c, f', e1, e2⟩ | ⟨l, e1, e2⟩
  · left; rw [e]
  · right; rw [e1, e2]; exact ⟨e, _, rfl, rfl⟩
  · left; rw [e1, e2]
theorem Veil.farLoad (h : Veil Lo v w) {p : Program} {a : Addr} {b : Bool} {y : Value × List Addr} (hy : v.farLoad p a b = .ok y) : w.farLoad p a b = .ok y ∧ ∀ x ∈ y.2, ¬ Blind v x.block ∧ x.block < v.heap.size := by
  unfold World.farLoad at hy ⊢
  cases ho : v.heap[a.block]? with
  | none => rw [ho] at hy; cases hy
  | some o =>
    rw [ho] at hy
    cases o with
    | view at_ u =>
      have hl : ¬ Blind v a.block := by unfold Blind; rw [ho]; exact id
      rw [← h.lit hl (by rw [ho]; simp), ho]
      simp only at hy ⊢
      cases hv : v.viewLoad p at_ u a b with
      | error m => rw [hv] at hy; cases hy
      | ok z =>
        rw [hv] at hy
        cases hy
        obtain ⟨⟨s, hs⟩, hb⟩ := viewLoad_seen hv
        obtain ⟨c, e, f, hc, hne⟩ := seen_cells hs
        have hl2 : ¬ Blind v at_.block := by unfold Blind; rw [hc]; exact hne
        have e2 : w.viewLoad p at_ u a b = v.viewLoad p at_ u a b := by
          unfold World.viewLoad
          rw [seen_of p (h.lit hl2 (by rw [hc]; simp))]
        rw [e2, hv]
        exact ⟨rfl, fun x hx => by rw [hb x hx]; exact ⟨hl2, lt_of_get hc⟩⟩
    | _ => cases hy
theorem Veil.farStore (h : Veil Lo v w) {p : Program} {a : Addr} {x : Value} {b : Bool} {v' : World} {l : List Addr} (hy : v.farStore p a x b = .ok (v', l)) :
    ∃ k c t f, ¬ Blind v k ∧ k < v.heap.size ∧ v' = { v with heap := v.heap.setIfInBounds k (.cells c t f) } ∧ w.farStore p a x b = .ok ({ w with heap := w.heap.setIfInBounds k (.cells c t f) }, l) ∧ ∀ x ∈ l, x.block = k := by
  unfold World.farStore at hy ⊢
  cases ho : v.heap[a.block]? with
  | none => rw [ho] at hy; cases hy
  | some o =>
    rw [ho] at hy
    cases o with
    | view at_ u =>
      have hl : ¬ Blind v a.block := by unfold Blind; rw [ho]; exact id
      rw [← h.lit hl (by rw [ho]; simp), ho]
      simp only at hy ⊢
      cases hv : v.viewStore p at_ u a x b with
      | error m => rw [hv] at hy; cases hy
      | ok z =>
        rw [hv] at hy
        cases hy
        have e : v.heap[at_.block]? = w.heap[at_.block]? := by
          obtain ⟨⟨s, hs⟩, _⟩ := viewStore_of rfl hv
          obtain ⟨c', e', f', hc, hne⟩ := seen_cells hs
          exact h.lit (by unfold Blind; rw [hc]; exact hne) (by rw [hc]; simp)
        obtain ⟨⟨s, hs⟩, hb, c, t, f, e1, e2⟩ := viewStore_of e hv
        obtain ⟨c', e', f', hc, hne⟩ := seen_cells hs
        have hl2 : ¬ Blind v at_.block := by unfold Blind; rw [hc]; exact hne
        rw [e2]
        exact ⟨at_.block, c, t, f, hl2, lt_of_get hc, e1, rfl, hb⟩
    | _ => cases hy
theorem farLoad_retape (v : World) (p : Program) (a : Addr) (b : Bool) (T : Nat → Question → Nat) (d : Nat) : (v.retape T d).farLoad p a b = v.farLoad p a b := rfl
theorem farStore_retape {v v' : World} {p : Program} {a : Addr} {x : Value} {b : Bool} {l : List Addr} (h : v.farStore p a x b = .ok (v', l)) (T : Nat → Question → Nat) (d : Nat) :
    (v.retape T d).farStore p a x b = .ok (v'.retape T d, l) ∧ v'.tape = v.tape ∧ v'.drawn = v.drawn := by
  unfold World.farStore at h ⊢
  have e : (v.retape T d).heap[a.block]? = v.heap[a.block]? := rfl
  rw [e]
  cases ho : v.heap[a.block]? with
  | none => rw [ho] at h; cases h
  | some o =>
    rw [ho] at h
    cases o with
    | view at_ u =>
      simp only at h ⊢
      cases hv : v.viewStore p at_ u a x b with
      | error m => rw [hv] at h; cases h
      | ok z =>
        rw [hv] at h
        cases h
        obtain ⟨_, _, c, t, f, e1, e2⟩ := viewStore_of (v := v) (w := v.retape T d) rfl hv
        rw [e2, e1]
        exact ⟨rfl, rfl, rfl⟩
    | _ => cases h
theorem noCell_not (v : World) (a : Addr) (what : String) (x : Value) : v.noCell a what ≠ .panic x := by
  unfold World.noCell
  split <;> (intro h; cases h)
end

/-- A run that fails by a missing cell is not fair. -/
theorem farLoad_unfair {α : Type} {v : World} {p : Program} {a : Addr} {b : Bool} {h : Halt} (he : v.farLoad p a b = .error h) : ¬ Result.fair (.halt h v : Result α) := by
  unfold World.farLoad at he
  intro hf
  have hp : ∃ x, h = .panic x := by cases h <;> first | exact ⟨_, rfl⟩ | exact hf.elim
  obtain ⟨x, rfl⟩ := hp
  split at he
  · split at he <;> cases he
  · exact noCell_not v a _ x (Except.error.inj he)
theorem farStore_unfair {α : Type} {v : World} {p : Program} {a : Addr} {y : Value} {b : Bool} {h : Halt} (he : v.farStore p a y b = .error h) : ¬ Result.fair (.halt h v : Result α) := by
  unfold World.farStore at he
  intro hf
  have hp : ∃ x, h = .panic x := by cases h <;> first | exact ⟨_, rfl⟩ | exact hf.elim
  obtain ⟨x, rfl⟩ := hp
  split at he
  · split at he <;> cases he
  · exact noCell_not v a _ x (Except.error.inj he)

/-! ### a tree in both worlds -/
section
variable {Q P : Program} {Bl : Nat → Prop} {α : Type} {Lo : Nat → Option Obj}

/-- What is known behind a run: the blind blocks are blind still, nothing has gone, each entry names what is not blind. -/
structure After (Bl : Nat → Prop) (v v' : World) (es es' : Array Event) : Prop where
  blind : ∀ r, Bl r → Blind v' r
  size : v.heap.size ≤ v'.heap.size
  fine : ∀ e ∈ es', e ∈ es ∨ Plain Bl v'.heap.size e

theorem After.refl {v : World} (h : ∀ r, Bl r → Blind v r) (es : Array Event) : After Bl v v es es := ⟨h, Nat.le_refl _, fun _ h => .inl h⟩
theorem After.step {v v₁ v' : World} {es es₁ es' : Array Event} (h : After Bl v₁ v' es₁ es') (hs : v.heap.size ≤ v₁.heap.size) (he : ∀ e ∈ es₁, e ∈ es ∨ Plain Bl v₁.heap.size e) : After Bl v v' es es' :=
  ⟨h.blind, Nat.le_trans hs h.size, fun e hx => (h.fine e hx).elim (fun y => (he e y).imp id fun z => z.mono h.size) .inr⟩

theorem doom_unfair : ∀ {s : Sem α} {v : World} {es es' : Array Event} {r : Result α}, Doom Q s → s.runT Q v es = (r, es') → ¬ Result.fair r := by
  intro s
  induction s with
  | halt h =>
    intro v es es' r hd hr
    simp only [Sem.runT, Prod.mk.injEq] at hr
    obtain ⟨rfl, _⟩ := hr
    cases h <;> first | exact hd.elim | exact id
  | program k ih =>
    intro v es es' r hd hr
    simp only [Sem.runT] at hr
    exact ih Q hd hr
  | shape k f ih =>
    intro v es es' r hd hr
    simp only [Sem.runT] at hr
    exact ih _ (hd _) hr
  | frozen k f ih =>
    intro v es es' r hd hr
    simp only [Sem.runT] at hr
    exact ih _ (hd _) hr
  | mark m k ih =>
    intro v es es' r hd hr
    simp only [Sem.runT] at hr
    exact ih hd hr
  | _ => intro v es es' r hd; exact hd.elim

/-- ████ WHAT A TAME TREE DOES IN THE VEILED WORLD IT DOES IN THE WORLD ITSELF, entry for entry. ████ -/
theorem veil_run (hPQ : P.toTables = Q.toTables) {s : Sem α} (hT : Tame Q P s) : ∀ {v w : World} {es es' : Array Event} {r : Result α}, Veil Lo v w → NoLoop v → (∀ r, Bl r → Blind v r) → s.runT Q v es = (r, es') → Result.fair r →
    ∃ r', s.runT P w es = (r', es') ∧ Alike Lo r r' ∧ After Bl v (Result.at r) es es' := by
  induction s with
  | pure a =>
    intro v w es es' r hv hn hb h _
    simp only [Sem.runT, Prod.mk.injEq] at h ⊢
    obtain ⟨rfl, rfl⟩ := h
    exact ⟨_, ⟨rfl, rfl⟩, .ok _ _ _ hv hn, .refl hb _⟩
  | load m a k ih =>
    intro v w es es' r hv hn hb h hf
    simp only [Sem.runT] at h ⊢
    cases hc : v.cell? a with
    | some x =>
      rw [hc] at h
      simp only [hv.cell hc]
      obtain ⟨r', h1, h2, h3⟩ := ih x (hT x) hv hn hb h hf
      exact ⟨r', h1, h2, h3.step (Nat.le_refl _) fun e he => (Array.mem_push.1 he).imp id fun y => by subst y; exact ⟨fun hB => lit_not hc (hb _ hB), cell_low hc⟩⟩
    | none =>
      rw [hc] at h
      cases hl : v.farLoad Q a (m == .atomic) with
      | error x =>
        simp only [hl, Prod.mk.injEq] at h
        obtain ⟨rfl, _⟩ := h
        exact (farLoad_unfair hl hf).elim
      | ok y =>
        obtain ⟨x, touched⟩ := y
        simp only [hl] at h
        obtain ⟨e1, e2⟩ := hv.farLoad hl
        have ec : w.cell? a = none := by
          cases hc' : w.cell? a with
          | none => rfl
          | some z =>
            exfalso
            unfold World.farLoad at hl
            split at hl
            · rename_i at_ u ho
              have hb' : ¬ Blind v a.block := by unfold Blind; rw [ho]; exact id
              have e0 := hv.lit hb' (by rw [ho]; simp)
              unfold World.cell? at hc'
              rw [← e0, ho] at hc'
              cases hc'
            · cases hl
        simp only [ec, farLoad_eq hPQ, e1]
        obtain ⟨r', h1, h2, h3⟩ := ih x (hT x) hv hn hb h hf
        refine ⟨r', h1, h2, h3.step (Nat.le_refl _) fun e he => (Array.mem_append.1 he).imp id fun y => ?_⟩
        simp only [List.mem_toArray, List.mem_map, List.map_toArray] at y
        obtain ⟨z, hz, rfl⟩ := y
        exact ⟨fun hB => (e2 z hz).1 (hb _ hB), (e2 z hz).2⟩
  | store m a x k ih =>
    intro v w es es' r hv hn hb h hf
    have key : ∀ (hs : (match v.cell? a with
        | some _ => if v.frozen? a then (.halt (.unsupported (.unsafePointer "a write to bytes that a string shares")) v, es) else k.runT Q (v.setCell a x) (es.push ⟨.cell a, true, m == .atomic⟩)
        | none => match v.farStore Q a x (m == .atomic) with
          | .ok (w, touched) => k.runT Q w (es ++ touched.toArray.map (⟨.cell ·, true, m == .atomic⟩))
          | .error h => (.halt h v, es)) = (r, es')),
        ∃ r', (match w.cell? a with
        | some _ => if w.frozen? a then (.halt (.unsupported (.unsafePointer "a write to bytes that a string shares")) w, es) else k.runT P (w.setCell a x) (es.push ⟨.cell a, true, m == .atomic⟩)
        | none => match w.farStore P a x (m == .atomic) with
          | .ok (w, touched) => k.runT P w (es ++ touched.toArray.map (⟨.cell ·, true, m == .atomic⟩))
          | .error h => (.halt h w, es)) = (r', es') ∧ Alike Lo r r' ∧ After Bl v (Result.at r) es es' := by
      intro hs
      cases hc : v.cell? a with
      | some y =>
        simp only [hc] at hs
        simp only [hv.cell hc]
        rw [hv.frozen hc]
        split at hs
        · simp only [Prod.mk.injEq] at hs
          obtain ⟨rfl, _⟩ := hs
          exact hf.elim
        · rename_i hz
          simp only [hz]
          obtain ⟨r', h1, h2, h3⟩ := ih hT (hv.setCell a x) (hn.setCell a x) (fun r hr => setCell_blind.2 (hb r hr)) hs hf
          exact ⟨r', h1, h2, h3.step (by simp [World.setCell]) fun e he => (Array.mem_push.1 he).imp id fun y => by subst y; exact ⟨fun hB => lit_not hc (hb _ hB), by simpa [World.setCell] using cell_low hc⟩⟩
      | none =>
        simp only [hc] at hs
        cases hl : v.farStore Q a x (m == .atomic) with
        | error y =>
          simp only [hl, Prod.mk.injEq] at hs
          obtain ⟨rfl, _⟩ := hs
          exact (farStore_unfair hl hf).elim
        | ok y =>
          obtain ⟨v', l⟩ := y
          simp only [hl] at hs
          obtain ⟨k', c, t, f, n1, n2, rfl, e1, e2⟩ := hv.farStore hl
          have ec : w.cell? a = none := by
            cases hc' : w.cell? a with
            | none => rfl
            | some z =>
              exfalso
              unfold World.farStore at hl
              split at hl
              · rename_i at_ u ho
                have hb' : ¬ Blind v a.block := by unfold Blind; rw [ho]; exact id
                have e0 := hv.lit hb' (by rw [ho]; simp)
                unfold World.cell? at hc'
                rw [← e0, ho] at hc'
                cases hc'
              · cases hl
          simp only [ec, farStore_eq hPQ, e1]
          obtain ⟨r', h1, h2, h3⟩ := ih hT (hv.setObj (show fresh (.cells c t f) from trivial) n1) (hn.setObj (show noLoop (.cells c t f) from trivial)) (fun r hr => set_blind n1 (hb r hr)) hs hf
          refine ⟨r', h1, h2, h3.step (by simp) fun e he => (Array.mem_append.1 he).imp id fun y => ?_⟩
          simp only [List.mem_toArray, List.mem_map, List.map_toArray] at y
          obtain ⟨z, hz, rfl⟩ := y
          exact ⟨fun hB => by rw [e2 z hz] at hB; exact n1 (hb _ hB), by rw [e2 z hz]; simpa using n2⟩
    cases x with
    | agg c => simp only [Sem.runT, Prod.mk.injEq] at h; obtain ⟨rfl, _⟩ := h; exact hf.elim
    | tuple c => simp only [Sem.runT, Prod.mk.injEq] at h; obtain ⟨rfl, _⟩ := h; exact hf.elim
    | _ => simp only [Sem.runT] at h ⊢; exact key h
  | new o k ih =>
    intro v w es es' r hv hn hb h hf
    simp only [Sem.runT] at h ⊢
    rw [← hv.size]
    obtain ⟨r', h1, h2, h3⟩ := ih _ (hT.2 _) (hv.push hT.1) (hn.push (fresh_loop hT.1)) (fun r hr => push_blind (hb r hr)) h hf
    exact ⟨r', h1, h2, h3.step (by simp) fun e he => .inl he⟩
  | shape k f ih =>
    intro v w es es' r hv hn hb h hf
    simp only [Sem.runT] at h ⊢
    rcases hT with hd | hT
    · exact (doom_unfair (hd _) h hf).elim
    rcases hv.shape k with e | ⟨e, n, e1, e2⟩
    · rw [← e]
      exact ih _ (hT.1 _) hv hn hb h hf
    · rw [e1] at h
      rw [e2]
      rcases hT.2 e n with e3 | hd
      · rw [← e3]
        exact ih _ (hT.1 _) hv hn hb h hf
      · exact (doom_unfair hd h hf).elim
  | freeze a n k ih => exact hT.elim
  | frozen a k ih =>
    intro v w es es' r hv hn hb h hf
    simp only [Sem.runT] at h
    exact (doom_unfair (hT _) h hf).elim
  | getObj k f ih =>
    intro v w es es' r hv hn hb h hf
    simp only [Sem.runT] at h ⊢
    have hl : ¬ Blind v k := by
      intro hk
      obtain ⟨e, f', ho⟩ := blindObj_spec hk
      rw [ho] at h
      simp only [Prod.mk.injEq] at h
      obtain ⟨rfl, _⟩ := h
      exact hf.elim
    rcases hv.lit' hl with e | ⟨l, e1, e2⟩
    · rw [← e]
      cases ho : v.heap[k]? with
      | none =>
        rw [ho] at h
        simp only [Prod.mk.injEq] at h
        obtain ⟨rfl, _⟩ := h
        exact hf.elim
      | some o =>
        rw [ho] at h
        cases o with
        | cells c e f' =>
          simp only [Prod.mk.injEq] at h
          obtain ⟨rfl, _⟩ := h
          exact hf.elim
        | _ =>
          simp only at h ⊢
          obtain ⟨r', h1, h2, h3⟩ := ih _ (hT.1 _) hv hn hb h hf
          exact ⟨r', h1, h2, h3.step (Nat.le_refl _) fun e he => (Array.mem_push.1 he).imp id fun y => by subst y; exact ⟨fun hB => hl (hb _ hB), lt_of_get ho⟩⟩
    · rw [e1] at h
      rw [e2]
      simp only at h ⊢
      rcases hT.2 l with e3 | hd
      · obtain ⟨r', h1, h2, h3⟩ := ih _ (hT.1 _) hv hn hb h hf
        rw [e3] at h1
        exact ⟨r', h1, h2, h3.step (Nat.le_refl _) fun e he => (Array.mem_push.1 he).imp id fun y => by subst y; exact ⟨fun hB => hl (hb _ hB), lt_of_get e1⟩⟩
      · exact (doom_unfair hd h hf).elim
  | setObj k o f ih =>
    intro v w es es' r hv hn hb h hf
    simp only [Sem.runT] at h ⊢
    have hl : ¬ Blind v k := by
      intro hk
      obtain ⟨e, f', ho⟩ := blindObj_spec hk
      rw [ho] at h
      simp only [Prod.mk.injEq] at h
      obtain ⟨rfl, _⟩ := h
      exact hf.elim
    have go : ∀ (o' : Obj), v.heap[k]? = some o' → (∀ c e f', o' ≠ .cells c e f') → Sem.runT Q f { v with heap := v.heap.setIfInBounds k o } (es.push ⟨.obj k, true, o.isChan⟩) = (r, es') →
        ∃ r', Sem.runT P f { w with heap := w.heap.setIfInBounds k o } (es.push ⟨.obj k, true, o.isChan⟩) = (r', es') ∧ Alike Lo r r' ∧ After Bl v (Result.at r) es es' := by
      intro o' ho _ h
      obtain ⟨r', h1, h2, h3⟩ := ih hT.2 (hv.setObj hT.1 hl) (hn.setObj (fresh_loop hT.1)) (fun r hr => set_blind hl (hb r hr)) h hf
      exact ⟨r', h1, h2, h3.step (by simp) fun e he => (Array.mem_push.1 he).imp id fun y => by subst y; exact ⟨fun hB => hl (hb _ hB), by simpa using lt_of_get ho⟩⟩
    rcases hv.lit' hl with e | ⟨l, e1, e2⟩
    · rw [← e]
      cases ho : v.heap[k]? with
      | none =>
        rw [ho] at h
        simp only [Prod.mk.injEq] at h
        obtain ⟨rfl, _⟩ := h
        exact hf.elim
      | some o' =>
        rw [ho] at h
        cases o' with
        | cells c e f' =>
          simp only [Prod.mk.injEq] at h
          obtain ⟨rfl, _⟩ := h
          exact hf.elim
        | _ =>
          simp only at h ⊢
          exact go _ ho (by simp) h
    · rw [e1] at h
      rw [e2]
      simp only at h ⊢
      exact go _ e1 (by simp) h
  | choose q k ih =>
    intro v w es es' r hv hn hb h hf
    simp only [Sem.runT] at h ⊢
    split at h
    · rename_i hq
      rw [if_pos hq]
      exact ih _ (hT _) hv hn hb h hf
    · rename_i hq
      rw [if_neg hq, ← hv.tape, ← hv.drawn]
      obtain ⟨r', h1, h2, h3⟩ := ih _ (hT _) (hv.draw) (fun r o ho => hn r o ho) (fun r hr => hb r hr) h hf
      rw [← hv.drawn, ← hv.tape] at h1
      exact ⟨r', h1, h2, h3.step (Nat.le_refl _) fun e he => .inl he⟩
  | sys c k ih => exact hT.elim
  | program k ih =>
    intro v w es es' r hv hn hb h hf
    simp only [Sem.runT] at h ⊢
    rw [hT.1]
    exact ih _ hT.2 hv hn hb h hf
  | mark m k ih =>
    intro v w es es' r hv hn hb h hf
    simp only [Sem.runT] at h ⊢
    obtain ⟨r', h1, h2, h3⟩ := ih hT.2 hv hn hb h hf
    exact ⟨r', h1, h2, h3.step (Nat.le_refl _) fun e he => (Array.mem_push.1 he).imp id fun y => by subst y; rw [hT.1]; trivial⟩
  | halt x =>
    intro v w es es' r hv hn hb h hf
    simp only [Sem.runT, Prod.mk.injEq] at h ⊢
    obtain ⟨rfl, rfl⟩ := h
    cases x <;> first | exact hf.elim | exact ⟨_, ⟨rfl, rfl⟩, .panic _ _ _ hv hn, .refl hb _⟩

/-- ████ A TREE DEPENDS ON THE TAPE ONLY WHERE IT DRAWS. ████ -/
def Result.retape {α : Type} (r : Result α) (T : Nat → Question → Nat) (d : Nat) : Result α :=
  match r with
  | .ok a w => .ok a (w.retape T d)
  | .halt h w => .halt h (w.retape T d)

theorem doom_halt : ∀ {s : Sem α} {v v' : World} {es es' : Array Event} {x : Halt}, Doom Q s → s.runT Q v es = (.halt x v', es') → (∃ y, x = .stuck y) ∨ ∃ y, x = .unsupported y := by
  intro s
  induction s with
  | halt h =>
    intro v v' es es' x hd hr
    simp only [Sem.runT, Prod.mk.injEq, Result.halt.injEq] at hr
    obtain ⟨⟨rfl, _⟩, _⟩ := hr
    cases h <;> first | exact hd.elim | exact .inl ⟨_, rfl⟩ | exact .inr ⟨_, rfl⟩
  | program k ih => intro v v' es es' x hd hr; simp only [Sem.runT] at hr; exact ih Q hd hr
  | shape k f ih => intro v v' es es' x hd hr; simp only [Sem.runT] at hr; exact ih _ (hd _) hr
  | frozen k f ih => intro v v' es es' x hd hr; simp only [Sem.runT] at hr; exact ih _ (hd _) hr
  | mark m k ih => intro v v' es es' x hd hr; simp only [Sem.runT] at hr; exact ih hd hr
  | _ => intro v v' es es' x hd; exact hd.elim
theorem noCell_halt (v : World) (a : Addr) (what : String) : (∃ y, v.noCell a what = .stuck y) ∨ ∃ y, v.noCell a what = .unsupported y := by
  unfold World.noCell
  split
  · exact .inr ⟨_, rfl⟩
  · exact .inr ⟨_, rfl⟩
  · exact .inl ⟨_, rfl⟩
theorem farLoad_halt {v : World} {p : Program} {a : Addr} {b : Bool} {x : Halt} (h : v.farLoad p a b = .error x) : (∃ y, x = .stuck y) ∨ ∃ y, x = .unsupported y := by
  unfold World.farLoad at h
  split at h
  · split at h <;> cases h
    exact .inr ⟨_, rfl⟩
  · cases h
    exact noCell_halt _ _ _
theorem farStore_halt {v : World} {p : Program} {a : Addr} {y : Value} {b : Bool} {x : Halt} (h : v.farStore p a y b = .error x) : (∃ y, x = .stuck y) ∨ ∃ y, x = .unsupported y := by
  unfold World.farStore at h
  split at h
  · split at h <;> cases h
    exact .inr ⟨_, rfl⟩
  · cases h
    exact noCell_halt _ _ _
/-- How a tame tree may fail. -/
theorem tame_halt : ∀ {s : Sem α} {v v' : World} {es es' : Array Event} {x : Halt}, Tame Q P s → s.runT Q v es = (.halt x v', es') → (∃ y, x = .panic y) ∨ (∃ y, x = .stuck y) ∨ ∃ y, x = .unsupported y := by
  intro s
  induction s with
  | pure a => intro v v' es es' x hd hr; simp only [Sem.runT, Prod.mk.injEq] at hr; cases hr.1
  | halt h =>
    intro v v' es es' x hd hr
    simp only [Sem.runT, Prod.mk.injEq, Result.halt.injEq] at hr
    obtain ⟨⟨rfl, _⟩, _⟩ := hr
    cases h <;> first | exact hd.elim | exact .inl ⟨_, rfl⟩ | exact .inr (.inl ⟨_, rfl⟩) | exact .inr (.inr ⟨_, rfl⟩)
  | load m a k ih =>
    intro v v' es es' x hd hr
    simp only [Sem.runT] at hr
    split at hr
    · exact ih _ (hd _) hr
    · split at hr
      · exact ih _ (hd _) hr
      · rename_i he
        simp only [Prod.mk.injEq, Result.halt.injEq] at hr
        obtain ⟨⟨rfl, _⟩, _⟩ := hr
        exact .inr (farLoad_halt he)
  | store m a y k ih =>
    intro v v' es es' x hd hr
    cases y with
    | agg c => simp only [Sem.runT, Prod.mk.injEq, Result.halt.injEq] at hr; exact .inr (.inl ⟨_, hr.1.1.symm⟩)
    | tuple c => simp only [Sem.runT, Prod.mk.injEq, Result.halt.injEq] at hr; exact .inr (.inl ⟨_, hr.1.1.symm⟩)
    | _ =>
      simp only [Sem.runT] at hr
      split at hr
      · split at hr
        · simp only [Prod.mk.injEq, Result.halt.injEq] at hr
          exact .inr (.inr ⟨_, hr.1.1.symm⟩)
        · exact ih hd hr
      · split at hr
        · exact ih hd hr
        · rename_i he
          simp only [Prod.mk.injEq, Result.halt.injEq] at hr
          obtain ⟨⟨rfl, _⟩, _⟩ := hr
          exact .inr (farStore_halt he)
  | new o k ih => intro v v' es es' x hd hr; simp only [Sem.runT] at hr; exact ih _ (hd.2 _) hr
  | shape r k ih =>
    intro v v' es es' x hd hr
    rcases hd with hd | hd
    · exact .inr (doom_halt (hd _) (by simpa only [Sem.runT] using hr))
    · simp only [Sem.runT] at hr; exact ih _ (hd.1 _) hr
  | freeze a n k ih => intro v v' es es' x hd; exact hd.elim
  | frozen a k ih => intro v v' es es' x hd hr; exact .inr (doom_halt (hd _) (by simpa only [Sem.runT] using hr))
  | getObj r k ih =>
    intro v v' es es' x hd hr
    simp only [Sem.runT] at hr
    split at hr
    · simp only [Prod.mk.injEq, Result.halt.injEq] at hr; exact .inr (.inl ⟨_, hr.1.1.symm⟩)
    · exact ih _ (hd.1 _) hr
    · simp only [Prod.mk.injEq, Result.halt.injEq] at hr; exact .inr (.inl ⟨_, hr.1.1.symm⟩)
  | setObj r o k ih =>
    intro v v' es es' x hd hr
    simp only [Sem.runT] at hr
    split at hr
    · simp only [Prod.mk.injEq, Result.halt.injEq] at hr; exact .inr (.inl ⟨_, hr.1.1.symm⟩)
    · exact ih hd.2 hr
    · simp only [Prod.mk.injEq, Result.halt.injEq] at hr; exact .inr (.inl ⟨_, hr.1.1.symm⟩)
  | choose q k ih =>
    intro v v' es es' x hd hr
    simp only [Sem.runT] at hr
    split at hr
    · exact ih _ (hd _) hr
    · exact ih _ (hd _) hr
  | sys c k ih => intro v v' es es' x hd; exact hd.elim
  | program k ih => intro v v' es es' x hd hr; simp only [Sem.runT] at hr; exact ih _ hd.2 hr
  | mark m k ih => intro v v' es es' x hd hr; simp only [Sem.runT] at hr; exact ih hd.2 hr

theorem tape_run {s : Sem α} (hT : Tame Q P s) : ∀ {v : World} {es es' : Array Event} {r : Result α}, s.runT Q v es = (r, es') → Result.fair r →
    (Result.at r).tape = v.tape ∧ v.drawn ≤ (Result.at r).drawn ∧
      ∀ (T' : Nat → Question → Nat) (d' : Nat), (∀ i, i < (Result.at r).drawn - v.drawn → T' (d' + i) = v.tape (v.drawn + i)) →
        s.runT Q (v.retape T' d') es = (Result.retape r T' (d' + ((Result.at r).drawn - v.drawn)), es') := by
  induction s with
  | pure a =>
    intro v es es' r h _
    simp only [Sem.runT, Prod.mk.injEq] at h ⊢
    obtain ⟨rfl, rfl⟩ := h
    exact ⟨rfl, Nat.le_refl _, fun T' d' _ => ⟨by simp [Result.retape, Result.at], rfl⟩⟩
  | load m a k ih =>
    intro v es es' r h hf
    simp only [Sem.runT] at h ⊢
    cases hc : v.cell? a with
    | some x =>
      rw [hc] at h
      obtain ⟨h1, h2, h3⟩ := ih x (hT x) h hf
      refine ⟨h1, h2, fun T' d' ht => ?_⟩
      have e : (v.retape T' d').cell? a = some x := hc
      rw [e]
      exact h3 T' d' ht
    | none =>
      rw [hc] at h
      cases hl : v.farLoad Q a (m == .atomic) with
      | error x =>
        simp only [hl, Prod.mk.injEq] at h
        obtain ⟨rfl, _⟩ := h
        exact (farLoad_unfair hl hf).elim
      | ok y =>
        obtain ⟨x, touched⟩ := y
        simp only [hl] at h
        obtain ⟨h1, h2, h3⟩ := ih x (hT x) h hf
        refine ⟨h1, h2, fun T' d' ht => ?_⟩
        have e : (v.retape T' d').cell? a = none := hc
        simp only [e, farLoad_retape, hl]
        exact h3 T' d' ht
  | store m a x k ih =>
    intro v es es' r h hf
    have key : ∀ (hs : (match v.cell? a with
        | some _ => if v.frozen? a then (.halt (.unsupported (.unsafePointer "a write to bytes that a string shares")) v, es) else k.runT Q (v.setCell a x) (es.push ⟨.cell a, true, m == .atomic⟩)
        | none => match v.farStore Q a x (m == .atomic) with
          | .ok (w, touched) => k.runT Q w (es ++ touched.toArray.map (⟨.cell ·, true, m == .atomic⟩))
          | .error h => (.halt h v, es)) = (r, es')),
        (Result.at r).tape = v.tape ∧ v.drawn ≤ (Result.at r).drawn ∧
      ∀ (T' : Nat → Question → Nat) (d' : Nat), (∀ i, i < (Result.at r).drawn - v.drawn → T' (d' + i) = v.tape (v.drawn + i)) →
        (match (v.retape T' d').cell? a with
        | some _ => if (v.retape T' d').frozen? a then (.halt (.unsupported (.unsafePointer "a write to bytes that a string shares")) (v.retape T' d'), es) else k.runT Q ((v.retape T' d').setCell a x) (es.push ⟨.cell a, true, m == .atomic⟩)
        | none => match (v.retape T' d').farStore Q a x (m == .atomic) with
          | .ok (w, touched) => k.runT Q w (es ++ touched.toArray.map (⟨.cell ·, true, m == .atomic⟩))
          | .error h => (.halt h (v.retape T' d'), es)) = (Result.retape r T' (d' + ((Result.at r).drawn - v.drawn)), es') := by
      intro hs
      cases hc : v.cell? a with
      | some y =>
        simp only [hc] at hs
        split at hs
        · simp only [Prod.mk.injEq] at hs
          obtain ⟨rfl, _⟩ := hs
          exact hf.elim
        · rename_i hz
          obtain ⟨h1, h2, h3⟩ := ih hT hs hf
          refine ⟨h1, h2, fun T' d' ht => ?_⟩
          have e : (v.retape T' d').cell? a = some y := hc
          have e2 : (v.retape T' d').frozen? a = v.frozen? a := rfl
          simp only [e, e2, hz]
          exact h3 T' d' ht
      | none =>
        simp only [hc] at hs
        cases hl : v.farStore Q a x (m == .atomic) with
        | error y =>
          simp only [hl, Prod.mk.injEq] at hs
          obtain ⟨rfl, _⟩ := hs
          exact (farStore_unfair hl hf).elim
        | ok y =>
          obtain ⟨v', l⟩ := y
          simp only [hl] at hs
          obtain ⟨_, t1, t2⟩ := farStore_retape hl v.tape v.drawn
          obtain ⟨h1, h2, h3⟩ := ih hT hs hf
          rw [t1] at h1 h3
          rw [t2] at h2 h3
          refine ⟨h1, h2, fun T' d' ht => ?_⟩
          have e : (v.retape T' d').cell? a = none := hc
          simp only [e, (farStore_retape hl T' d').1]
          exact h3 T' d' ht
    cases x with
    | agg c => simp only [Sem.runT, Prod.mk.injEq] at h; obtain ⟨rfl, _⟩ := h; exact hf.elim
    | tuple c => simp only [Sem.runT, Prod.mk.injEq] at h; obtain ⟨rfl, _⟩ := h; exact hf.elim
    | _ => simp only [Sem.runT] at h ⊢; exact key h
  | new o k ih =>
    intro v es es' r h hf
    simp only [Sem.runT] at h ⊢
    exact ih _ (hT.2 _) h hf
  | shape k f ih =>
    intro v es es' r h hf
    simp only [Sem.runT] at h ⊢
    rcases hT with hd | hT
    · exact (doom_unfair (hd _) h hf).elim
    exact ih _ (hT.1 _) h hf
  | freeze a n k ih => exact hT.elim
  | frozen a k ih =>
    intro v es es' r h hf
    simp only [Sem.runT] at h
    exact (doom_unfair (hT _) h hf).elim
  | getObj k f ih =>
    intro v es es' r h hf
    simp only [Sem.runT] at h ⊢
    cases ho : v.heap[k]? with
    | none =>
      rw [ho] at h
      simp only [Prod.mk.injEq] at h
      obtain ⟨rfl, _⟩ := h
      exact hf.elim
    | some o =>
      rw [ho] at h
      cases o with
      | cells c e f' =>
        simp only [Prod.mk.injEq] at h
        obtain ⟨rfl, _⟩ := h
        exact hf.elim
      | _ =>
        simp only at h ⊢
        obtain ⟨h1, h2, h3⟩ := ih _ (hT.1 _) h hf
        refine ⟨h1, h2, fun T' d' ht => ?_⟩
        have e : (v.retape T' d').heap[k]? = v.heap[k]? := rfl
        rw [e, ho]
        exact h3 T' d' ht
  | setObj k o f ih =>
    intro v es es' r h hf
    simp only [Sem.runT] at h ⊢
    cases ho : v.heap[k]? with
    | none =>
      rw [ho] at h
      simp only [Prod.mk.injEq] at h
      obtain ⟨rfl, _⟩ := h
      exact hf.elim
    | some o' =>
      rw [ho] at h
      cases o' with
      | cells c e f' =>
        simp only [Prod.mk.injEq] at h
        obtain ⟨rfl, _⟩ := h
        exact hf.elim
      | _ =>
        simp only at h ⊢
        obtain ⟨h1, h2, h3⟩ := ih hT.2 h hf
        refine ⟨h1, h2, fun T' d' ht => ?_⟩
        have e : (v.retape T' d').heap[k]? = v.heap[k]? := rfl
        rw [e, ho]
        exact h3 T' d' ht
  | choose q k ih =>
    intro v es es' r h hf
    simp only [Sem.runT] at h ⊢
    split at h
    · rename_i hq
      simp only [hq, if_true]
      exact ih _ (hT _) h hf
    · rename_i hq
      obtain ⟨h1, h2, h3⟩ := ih _ (hT _) (v := { v with drawn := v.drawn + 1 }) h hf
      simp only at h1 h2 h3
      refine ⟨h1, by omega, fun T' d' ht => ?_⟩
      simp only [hq]
      have e0 : T' d' = v.tape v.drawn := by simpa using ht 0 (by omega)
      have e1 : (v.retape T' d').tape (v.retape T' d').drawn q = v.tape v.drawn q := by show T' d' q = _; rw [e0]
      rw [e1]
      have := h3 T' (d' + 1) (fun i hi => by
        have := ht (i + 1) (by omega)
        rw [show d' + 1 + i = d' + (i + 1) by omega, this, show v.drawn + (i + 1) = v.drawn + 1 + i by omega])
      rw [show d' + 1 + ((Result.at r).drawn - (v.drawn + 1)) = d' + ((Result.at r).drawn - v.drawn) by omega] at this
      exact this
  | sys c k ih => exact hT.elim
  | program k ih =>
    intro v es es' r h hf
    simp only [Sem.runT] at h ⊢
    exact ih _ hT.2 h hf
  | mark m k ih =>
    intro v es es' r h hf
    simp only [Sem.runT] at h ⊢
    exact ih hT.2 h hf
  | halt x =>
    intro v es es' r h hf
    simp only [Sem.runT, Prod.mk.injEq] at h ⊢
    obtain ⟨rfl, rfl⟩ := h
    exact ⟨rfl, Nat.le_refl _, fun T' d' _ => ⟨by simp [Result.retape, Result.at], rfl⟩⟩
end

end Go.Veiled

namespace Go.Veiled
set_option linter.unusedSimpArgs false
set_option linter.unusedSectionVars false
set_option linter.unusedVariables false
open Go.Conc

theorem Tame.prog {Q P : Program} {α : Type} {f : Program → Sem α} (h : f P = f Q) (h2 : Tame Q P (f Q)) : Tame Q P (program >>= f) := ⟨h, h2⟩

section
variable {T : Tables} {F1 F2 : Array Func}

theorem tm_typeInfo (t : TypeId) : (Tame (Program.mk T F1) (Program.mk T F2)) (typeInfo t) := by
  refine Tame.prog rfl ?_
  split <;> trivial
theorem tm_under (t : TypeId) : (Tame (Program.mk T F1) (Program.mk T F2)) (underlying t) := by
  refine Tame.prog rfl ?_
  split <;> trivial
theorem tm_zero (t : TypeId) : (Tame (Program.mk T F1) (Program.mk T F2)) (zeroValue t) := by
  refine Tame.bind (tm_typeInfo t) fun i => ?_
  split <;> trivial
theorem tm_size (t : TypeId) : (Tame (Program.mk T F1) (Program.mk T F2)) (sizeOf t) := Tame.bind (tm_typeInfo t) fun i => trivial
theorem tm_isAgg (t : TypeId) : (Tame (Program.mk T F1) (Program.mk T F2)) (isAgg t) := by
  refine Tame.bind (tm_under t) fun i => ?_
  split <;> trivial
theorem tm_load (a : Addr) : (Tame (Program.mk T F1) (Program.mk T F2)) (load a) := fun _ => trivial
theorem tm_store (a : Addr) (v : Value) : (Tame (Program.mk T F1) (Program.mk T F2)) (store a v) := trivial
theorem tm_choose (q : Question) : (Tame (Program.mk T F1) (Program.mk T F2)) (choose q) := fun _ => trivial
theorem tm_newRow (e : TypeId) (c : Array Value) : (Tame (Program.mk T F1) (Program.mk T F2)) (newRow e c) := ⟨trivial, fun _ => trivial⟩
theorem tm_newVar (e : TypeId) (v : Value) : (Tame (Program.mk T F1) (Program.mk T F2)) (newVar e v) := ⟨trivial, fun _ => trivial⟩
theorem tm_loadCells (a : Addr) : ∀ (n i : Nat) (acc : Array Value), (Tame (Program.mk T F1) (Program.mk T F2)) (loadCellsFrom a i n acc) := by
  intro n
  induction n with
  | zero => intro i acc; trivial
  | succ n ih => intro i acc; exact Tame.bind (tm_load _) fun v => ih _ _
theorem tm_storeCells (a : Addr) : ∀ (vs : List Value) (i : Nat), (Tame (Program.mk T F1) (Program.mk T F2)) (storeCells a vs i) := by
  intro vs
  induction vs with
  | nil => intro i; trivial
  | cons v vs ih => intro i; exact Tame.bind (tm_store _ _) fun _ => ih _
theorem tm_loadVar (t : TypeId) (a : Addr) : (Tame (Program.mk T F1) (Program.mk T F2)) (loadVar t a) := by
  refine Tame.bind (tm_isAgg t) fun b => ?_
  split
  · exact Tame.bind (tm_size t) fun n => Tame.bind (tm_loadCells a _ _ _) fun _ => trivial
  · exact tm_load a
theorem tm_storeVar (t : TypeId) (a : Addr) (v : Value) : (Tame (Program.mk T F1) (Program.mk T F2)) (storeVar t a v) := by
  refine Tame.bind (tm_size t) fun n => ?_
  split
  · trivial
  · exact tm_storeCells _ _ _
theorem tm_elemOf (t : TypeId) : (Tame (Program.mk T F1) (Program.mk T F2)) (elemOf t) := by
  refine Tame.bind (tm_under t) fun i => ?_
  split <;> trivial
theorem tm_part (t : TypeId) (cs : Array Value) (off : Nat) : (Tame (Program.mk T F1) (Program.mk T F2)) (part t cs off) := by
  refine Tame.bind (tm_isAgg t) fun b => ?_
  split
  · exact Tame.bind (tm_size t) fun n => trivial
  · split <;> trivial
theorem tm_rtPanic {α : Type} (e : RuntimeError) : (Tame (Program.mk T F1) (Program.mk T F2)) (runtimePanic e : Sem α) := by
  cases e <;> first
    | exact Tame.prog rfl trivial
    | exact Tame.prog rfl (Tame.bind (tm_elemOf _) fun _ => Tame.bind (tm_newVar _ _) fun _ => trivial)
theorem tm_bounds {α : Type} (k : IntKind) (x y : Int) (c : BoundsCode) : (Tame (Program.mk T F1) (Program.mk T F2)) (boundsPanic k x y c : Sem α) := by
  unfold boundsPanic
  dsimp +zetaHave only
  split
  · exact Tame.bind (Tame.map (tm_choose _)) fun _ => by first | exact tm_rtPanic _ | exact Tame.bind (s := pure _) trivial fun _ => tm_rtPanic _
  · first | exact tm_rtPanic _ | exact Tame.bind (s := pure _) trivial fun _ => tm_rtPanic _
theorem tm_asIntOf (v : Value) : (Tame (Program.mk T F1) (Program.mk T F2)) (asIntOf v) := by unfold asIntOf; split <;> trivial
theorem tm_asInt (v : Value) : (Tame (Program.mk T F1) (Program.mk T F2)) (asInt v) := Tame.bind (tm_asIntOf v) fun _ => trivial
theorem tm_asBool (v : Value) : (Tame (Program.mk T F1) (Program.mk T F2)) (asBool v) := by unfold asBool; split <;> trivial
theorem tm_sureAddr (v : Value) : (Tame (Program.mk T F1) (Program.mk T F2)) (Instr.sureAddr v) := by unfold Instr.sureAddr; split <;> trivial
theorem tm_asAddr (v : Value) : (Tame (Program.mk T F1) (Program.mk T F2)) (asAddr v) := by
  unfold asAddr
  split
  · trivial
  · exact tm_rtPanic _
  · trivial
theorem tm_askRoom (n : Nat) : (Tame (Program.mk T F1) (Program.mk T F2)) (askRoom n) := by
  unfold askRoom
  split
  · exact ⟨rfl, trivial⟩
  · trivial

/-! ### the instructions -/
theorem tm_alloc (e : TypeId) : (Tame (Program.mk T F1) (Program.mk T F2)) (Instr.alloc e true (.tuple #[])) := Tame.bind (tm_zero e) fun _ => Tame.bind (tm_newVar _ _) fun _ => trivial
theorem tm_box (e : TypeId) (v : Value) : (Tame (Program.mk T F1) (Program.mk T F2)) (Instr.box e v) := Tame.bind (tm_newVar _ _) fun _ => trivial
theorem tm_mapM {α β : Type} {f : α → Sem β} (h : ∀ a, (Tame (Program.mk T F1) (Program.mk T F2)) (f a)) (xs : Array α) : (Tame (Program.mk T F1) (Program.mk T F2)) (xs.mapM f) := by
  rw [Array.mapM_eq_foldlM, ← Array.foldlM_toList]
  have key : ∀ (l : List α) (acc : Array β), (Tame (Program.mk T F1) (Program.mk T F2)) (l.foldlM (fun acc a => acc.push <$> f a) acc) := by
    intro l
    induction l with
    | nil => intro acc; trivial
    | cons a l ih => intro acc; rw [List.foldlM_cons]; exact Tame.bind (Tame.map (h a)) fun _ => ih _
  exact key _ _
theorem tm_build (t : TypeId) (parts : Array (Nat × Value)) : (Tame (Program.mk T F1) (Program.mk T F2)) (Instr.build t parts) := by
  refine Tame.bind (tm_zero t) fun z => Tame.bind (tm_under t) fun u => ?_
  split
  · refine Tame.bind (tm_mapM (fun f => Tame.bind (tm_size _) fun _ => Tame.pure' _) _) fun _ => ?_
    split <;> trivial
  · refine Tame.bind (tm_size _) fun _ => ?_
    split <;> trivial
  · trivial
theorem tm_buildSlice (t : TypeId) (len : Nat) (parts : Array (Nat × Value)) : (Tame (Program.mk T F1) (Program.mk T F2)) (Instr.buildSlice t len parts) := by
  refine Tame.bind (tm_under t) fun u => ?_
  split
  · rename_i elem
    refine Tame.bind (tm_size _) fun sz => ?_
    dsimp +zetaHave only
    have last : ∀ z : Array Value, (Tame (Program.mk T F1) (Program.mk T F2)) (match Instr.fill (fun i => some (i * sz, sz)) ((Array.range (len * sz)).map (fun x => z[x % z.size]!)) parts.toList with
        | some cells => do
          let a ← newRow elem cells
          pure (Value.slice (some a) len len)
        | x => stuck "buildSlice: a part of the wrong size") := fun z => by
      split
      · exact Tame.bind (tm_newRow _ _) fun _ => trivial
      · trivial
    split
    · exact Tame.bind (s := unsupported _) trivial fun _ => by
        split
        · exact Tame.bind (s := pure _) trivial fun _ => last _
        · exact Tame.bind (tm_zero _) fun _ => Tame.bind (s := pure _) trivial fun _ => last _
    · split
      · exact Tame.bind (s := pure _) trivial fun _ => last _
      · exact Tame.bind (tm_zero _) fun _ => Tame.bind (s := pure _) trivial fun _ => last _
  · trivial
theorem tm_loadAt (t : TypeId) (a : Value) : (Tame (Program.mk T F1) (Program.mk T F2)) (Instr.loadAt t a) := Tame.bind (tm_sureAddr a) fun _ => tm_loadVar _ _
theorem tm_storeAt (t : TypeId) (a v : Value) : (Tame (Program.mk T F1) (Program.mk T F2)) (Instr.storeAt t a v) := Tame.bind (tm_sureAddr a) fun _ => tm_storeVar _ _ _
theorem tm_makeSlice (t : TypeId) (l c : Value) : (Tame (Program.mk T F1) (Program.mk T F2)) (Instr.makeSlice t l c) := by
  refine Tame.bind (tm_under t) fun u => ?_
  split
  · rename_i elem
    refine Tame.bind (tm_asInt _) fun l => Tame.bind (tm_asInt _) fun c => Tame.bind (tm_typeInfo _) fun i => ?_
    dsimp +zetaHave only
    have last : ∀ (c l : Int), (Tame (Program.mk T F1) (Program.mk T F2)) (do
        askRoom (c.toNat * i.bytes)
        let k ← sizeOf elem
        if c.toNat * k = 0 then do
          let z ← pure #[]
          let a ← newRow elem ((Array.range (c.toNat * k)).map (fun x => z[x % z.size]!))
          pure (Value.slice (some a) l.toNat c.toNat)
        else do
          let y ← zeroValue elem
          let z ← pure y.cells
          let a ← newRow elem ((Array.range (c.toNat * k)).map (fun x => z[x % z.size]!))
          pure (Value.slice (some a) l.toNat c.toNat)) := fun c l => by
      refine Tame.bind (tm_askRoom _) fun _ => Tame.bind (tm_size _) fun k => ?_
      split
      · exact Tame.bind (s := pure _) trivial fun _ => Tame.bind (tm_newRow _ _) fun _ => trivial
      · exact Tame.bind (tm_zero _) fun _ => Tame.bind (s := pure _) trivial fun _ => Tame.bind (tm_newRow _ _) fun _ => trivial
    split
    · split
      · exact Tame.bind (tm_rtPanic _) fun _ => last _ _
      · split
        · exact Tame.bind (tm_rtPanic _) fun _ => last _ _
        · exact Tame.bind (tm_choose _) fun _ => Tame.bind (tm_rtPanic _) fun _ => last _ _
    · exact last _ _
  · trivial
theorem tm_index (t : TypeId) (x i : Value) : (Tame (Program.mk T F1) (Program.mk T F2)) (Instr.index t x i) := by
  refine Tame.bind (tm_asIntOf _) fun ki => Tame.bind (tm_under t) fun u => ?_
  split
  · split
    · exact Tame.bind (tm_size _) fun _ => tm_part _ _ _
    · exact tm_bounds _ _ _ _
  · split
    · trivial
    · exact tm_bounds _ _ _ _
  · trivial
theorem tm_indexAt (t : TypeId) (x i : Value) : (Tame (Program.mk T F1) (Program.mk T F2)) (Instr.indexAt t x i) := by
  unfold Instr.indexAt
  refine Tame.bind (tm_asIntOf _) fun ki => Tame.bind (tm_under t) fun u => ?_
  dsimp +zetaHave only
  have last : ∀ (y : Option Addr × Nat × TypeId) (tiny : Bool), (Tame (Program.mk T F1) (Program.mk T F2)) (match y.1 with
      | some a => (if 0 ≤ ki.2 ∧ ki.2 < y.2.1 then do
          let z ← sizeOf y.2.2
          pure (.pointer (some (a.add (ki.2.toNat * z))))
        else if tiny then unsupported (.noEntry "op/indexAddr.an index out of range at an array of length 0 or 1 (ledger 616)")
        else boundsPanic ki.1 ki.2 y.2.1 .index : Sem Value)
      | none => boundsPanic ki.1 ki.2 0 .index) := by
    intro y tiny
    split
    · split
      · exact Tame.bind (tm_size _) fun _ => Tame.pure' _
      · split
        · trivial
        · exact tm_bounds _ _ _ _
    · exact tm_bounds _ _ _ _
  have rest : ∀ (y : Option Addr × Nat × TypeId), (Tame (Program.mk T F1) (Program.mk T F2)) (do
      let u ← underlying t
      match y.1 with
      | some a => (if 0 ≤ ki.2 ∧ ki.2 < y.2.1 then do
          let z ← sizeOf y.2.2
          pure (.pointer (some (a.add (ki.2.toNat * z))))
        else if (decide (y.2.1 ≤ 1) && (match u with | .array .. => true | _ => false)) = true then unsupported (.noEntry "op/indexAddr.an index out of range at an array of length 0 or 1 (ledger 616)")
        else boundsPanic ki.1 ki.2 y.2.1 .index : Sem Value)
      | none => boundsPanic ki.1 ki.2 0 .index) := fun y => Tame.bind (tm_under t) fun u => last y _
  split
  · exact Tame.bind (tm_sureAddr _) fun a => Tame.bind (s := pure _) trivial fun y => rest y
  · exact Tame.bind (s := pure _) trivial fun y => rest y
  · exact Tame.bind (s := stuck _) trivial fun y => rest y
theorem tm_extract (x : Value) (i : Nat) : (Tame (Program.mk T F1) (Program.mk T F2)) (Instr.extract x i) := by
  unfold Instr.extract
  split
  · split <;> trivial
  · trivial
end
end Go.Veiled

namespace Go.Veiled
set_option linter.unusedSimpArgs false
set_option linter.unusedSectionVars false
set_option linter.unusedVariables false
open Go.Conc

theorem Tame.shp {Q P : Program} {α : Type} {r : Nat} {k : Option (TypeId × Nat) → Sem α} (h1 : ∀ s, Tame Q P (k s)) (h2 : ∀ e n, k (some (e, 0)) = k (some (e, n)) ∨ Doom Q (k (some (e, 0)))) : Tame Q P (shape r >>= k) := .inr ⟨h1, h2⟩
theorem Tame.obj {Q P : Program} {α : Type} {r : Nat} {k : Obj → Sem α} (h : ∀ o, Tame Q P (k o)) (h2 : ∀ l, k (.coro none) = k (.loop l) ∨ Doom Q (k (.coro none))) : Tame Q P (getObj r >>= k) := ⟨h, h2⟩

section
variable {T : Tables} {F1 F2 : Array Func}

theorem tm_viewAt (r : Nat) : (Tame (Program.mk T F1) (Program.mk T F2)) (viewAt r) := by
  refine Tame.shp (fun s => ?_) fun e n => .inl rfl
  split
  · trivial
  · refine Tame.obj (fun o => ?_) fun l => .inl rfl
    split <;> trivial
theorem tm_numberAt (r : Nat) : (Tame (Program.mk T F1) (Program.mk T F2)) (numberAt r) := by
  refine Tame.shp (fun s => ?_) fun e n => .inl rfl
  split
  · trivial
  · refine Tame.obj (fun o => ?_) fun l => .inl rfl
    split <;> trivial
theorem tm_behind (a : Addr) : (Tame (Program.mk T F1) (Program.mk T F2)) (behindNumber a) := Tame.bind (tm_numberAt _) fun _ => trivial
theorem tm_noView (a : Addr) : (Tame (Program.mk T F1) (Program.mk T F2)) (noView a) := by
  refine Tame.bind (tm_viewAt _) fun s => ?_
  split <;> trivial
theorem tm_byteOf (a : Addr) : (Tame (Program.mk T F1) (Program.mk T F2)) (byteOf a) := by
  unfold byteOf
  dsimp +zetaHave only
  split
  · trivial
  · refine Tame.prog ?_ ?_
    · simp only [cellsOf_eq (P := Program.mk T F2) (Q := Program.mk T F1) rfl, bytesOf_eq (P := Program.mk T F2) (Q := Program.mk T F1) rfl, byteOfCell_eq (P := Program.mk T F2) (Q := Program.mk T F1) rfl, depth_eq (P := Program.mk T F2) (Q := Program.mk T F1) rfl]
    · refine Tame.bind (tm_noView a) fun _ => Tame.shp (fun s => ?_) fun e n => .inl rfl
      split
      · split
        · trivial
        · split <;> trivial
      · trivial
theorem tm_partAt (a : Addr) (c b : Nat) : (Tame (Program.mk T F1) (Program.mk T F2)) (partAt a c b) := by
  refine Tame.bind (tm_byteOf a) fun _ => Tame.bind (tm_byteOf _) fun _ => trivial
theorem tm_fieldAt (s : TypeId) (x : Value) (f : Nat) : (Tame (Program.mk T F1) (Program.mk T F2)) (Instr.fieldAt s x f) := by
  refine Tame.bind (tm_under s) fun u => ?_
  split
  · split
    · refine Tame.bind (tm_sureAddr x) fun a => Tame.bind ?_ fun _ => trivial
      refine Tame.bind (tm_size _) fun n => ?_
      split
      · exact tm_partAt _ _ _
      · trivial
    · trivial
  · trivial
theorem tm_unsafeAdd (ts : Array TypeId) (t : TypeId) (x y : Value) : (Tame (Program.mk T F1) (Program.mk T F2)) (Builtin.unsafeAdd_ ts t #[x, y]) := by
  unfold Builtin.unsafeAdd_
  dsimp +zetaHave only
  cases x with
  | pointer ptr =>
    refine Tame.bind (tm_asInt _) fun n => ?_
    have last : (Tame (Program.mk T F1) (Program.mk T F2)) (if n < 0 then do
          let r : PUnit ← unsupported (.unsafePointer "Add: a move by a count below zero")
          (match ptr with
          | some a => do
            let s ← shape a.block
            match s with
            | some (e, cells) => do
              let p ← program
              match cellAtBytes p p.depth e (cells / p.cellsOf e) a.off n with
              | some off => pure (.pointer (some { a with off }))
              | none => unsupported (.unsafePointer "Add")
            | _ => unsupported (.unsafePointer "Add")
          | _ => unsupported (.unsafePointer "Add") : Sem Value)
        else match ptr with
          | some a => do
            let s ← shape a.block
            match s with
            | some (e, cells) => do
              let p ← program
              match cellAtBytes p p.depth e (cells / p.cellsOf e) a.off n with
              | some off => pure (.pointer (some { a with off }))
              | none => unsupported (.unsafePointer "Add")
            | _ => unsupported (.unsafePointer "Add")
          | _ => unsupported (.unsafePointer "Add")) := by
      have tail : (Tame (Program.mk T F1) (Program.mk T F2)) (match ptr with
          | some a => do
            let s ← shape a.block
            match s with
            | some (e, cells) => do
              let p ← program
              match cellAtBytes p p.depth e (cells / p.cellsOf e) a.off n with
              | some off => pure (.pointer (some { a with off }))
              | none => unsupported (.unsafePointer "Add")
            | _ => unsupported (.unsafePointer "Add")
          | _ => unsupported (.unsafePointer "Add") : Sem Value) := by
        split
        · rename_i a
          refine Tame.shp (fun s => ?_) fun e m => .inr ?_
          · split
            · refine Tame.prog ?_ ?_
              · simp only [cellsOf_eq (P := Program.mk T F2) (Q := Program.mk T F1) rfl, cellAtBytes_eq (P := Program.mk T F2) (Q := Program.mk T F1) rfl, depth_eq (P := Program.mk T F2) (Q := Program.mk T F1) rfl]
              · split <;> trivial
            · trivial
          · show Doom _ (match cellAtBytes (Program.mk T F1) (Program.mk T F1).depth e (0 / (Program.mk T F1).cellsOf e) a.off n with
              | some off => pure (.pointer (some { a with off }))
              | none => unsupported (.unsafePointer "Add") : Sem Value)
            have : cellAtBytes (Program.mk T F1) (Program.mk T F1).depth e (0 / (Program.mk T F1).cellsOf e) a.off n = none := by
              simp only [cellAtBytes, Nat.zero_div, Nat.zero_mul]
              cases byteOfCell (Program.mk T F1) (Program.mk T F1).depth e (a.off % (Program.mk T F1).cellsOf e) with
              | none => simp
              | some b =>
                simp
                omega
            rw [this]
            trivial
        · trivial
      split
      · exact Tame.bind (s := unsupported _) trivial fun _ => tail
      · exact tail
    split
    · split
      · refine Tame.bind (tm_viewAt _) fun s => ?_
        split
        · trivial
        · trivial
      · exact Tame.bind (s := unsupported _) trivial fun _ => last
    · exact last
  | _ => trivial
theorem tm_two (a b : Addr) : (Tame (Program.mk T F1) (Program.mk T F2)) (Op.twoPlaces a b) := by
  unfold Op.twoPlaces
  dsimp +zetaHave only
  refine Tame.prog rfl ?_
  split
  · exact Tame.bind (s := unsupported _) trivial fun _ => Tame.bind (tm_byteOf _) fun _ => Tame.bind (tm_byteOf _) fun _ => trivial
  · exact Tame.bind (tm_byteOf _) fun _ => Tame.bind (tm_byteOf _) fun _ => trivial
theorem tm_addrSub (k : IntKind) (a b : Addr) : (Tame (Program.mk T F1) (Program.mk T F2)) (Op.addrSub k a b) := Tame.bind (tm_two _ _) fun _ => trivial
theorem tm_addrCmp (op : BinOp) (a b : Addr) : (Tame (Program.mk T F1) (Program.mk T F2)) (Op.addrCmp op a b) := by
  refine Tame.bind (tm_two _ _) fun xy => ?_
  split; cases op <;> trivial
theorem tm_addrMod (k : IntKind) (a : Addr) (n : Int) : (Tame (Program.mk T F1) (Program.mk T F2)) (Op.addrMod k a n) := by
  unfold Op.addrMod
  dsimp +zetaHave only
  refine Tame.shp (fun s => ?_) fun e m => .inl rfl
  split
  · refine Tame.bind (tm_typeInfo _) fun i => ?_
    split
    · exact Tame.bind (s := unsupported _) trivial fun _ => Tame.bind (tm_byteOf _) fun _ => trivial
    · exact Tame.bind (tm_byteOf _) fun _ => trivial
  · trivial
theorem tm_movedNumber (t : TypeId) (x y : Value) : (Tame (Program.mk T F1) (Program.mk T F2)) (movedNumber t x y) := by
  unfold movedNumber
  dsimp +zetaHave only
  refine Tame.bind (tm_under t) fun u => ?_
  have tail : (Tame (Program.mk T F1) (Program.mk T F2)) (match x with
      | .pointer (some n) => (do
        let al ← behindNumber n
        match ← Builtin.unsafeAdd_ #[] t #[.pointer (some al.1), y] with
        | .pointer (some b) => asNumber b al.2
        | v => pure v : Sem Value)
      | _ => Builtin.unsafeAdd_ #[] t #[x, y]) := by
    split
    · refine Tame.bind (tm_behind _) fun al => Tame.bind (tm_unsafeAdd _ _ _ _) fun v => ?_
      split
      · exact Tame.bind (s := newObj _) ⟨trivial, fun _ => trivial⟩ fun _ => trivial
      · trivial
    · exact tm_unsafeAdd _ _ _ _
  split
  · exact Tame.bind (s := unsupported _) trivial fun _ => tail
  · exact tail
theorem tm_movedPointer (t : TypeId) (x y : Value) : (Tame (Program.mk T F1) (Program.mk T F2)) (movedPointer t x y) := by
  unfold movedPointer
  dsimp +zetaHave only
  split
  · refine Tame.bind (tm_numberAt _) fun s => ?_
    split
    · exact Tame.bind (s := unsupported _) trivial fun _ => tm_unsafeAdd _ _ _ _
    · exact tm_unsafeAdd _ _ _ _
  · exact tm_unsafeAdd _ _ _ _

/-- The types of the numbers, of bool and of string. -/
def plainType (p : Program) (t : TypeId) : Bool :=
  match p.underlying t with
  | some .bool | some (.int _) | some .string => true
  | _ => false
theorem Tame.und {α : Type} {t : TypeId} {d : TypeDesc} {k : TypeDesc → Sem α} (hu : (Program.mk T F1).underlying t = some d) (h : (Tame (Program.mk T F1) (Program.mk T F2)) (k d)) : (Tame (Program.mk T F1) (Program.mk T F2)) (underlying t >>= k) := by
  have e := underlying_eq (P := Program.mk T F2) (Q := Program.mk T F1) rfl t
  refine ⟨?_, ?_⟩
  · show Sem.bind (match (Program.mk T F2).underlying t with | some d => pure d | none => stuck "no such type" : Sem TypeDesc) k = Sem.bind (match (Program.mk T F1).underlying t with | some d => pure d | none => stuck "no such type") k
    rw [e]
  · show (Tame (Program.mk T F1) (Program.mk T F2)) (Sem.bind (match (Program.mk T F1).underlying t with | some d => pure d | none => stuck "no such type" : Sem TypeDesc) k)
    rw [hu]
    exact h
theorem tm_equal {t : TypeId} (ht : plainType (Program.mk T F1) t = true) (x y : Value) : (Tame (Program.mk T F1) (Program.mk T F2)) (Op.equal t x y) := by
  show (Tame (Program.mk T F1) (Program.mk T F2)) (Op.equalIn (9999 + 1) t x y)
  unfold Op.equalIn
  dsimp +zetaHave only
  unfold plainType at ht
  split at ht
  · rename_i h
    refine Tame.und h ?_
    cases x <;> cases y <;> trivial
  · rename_i k h
    refine Tame.und h ?_
    have two : ∀ a b : Addr, (Tame (Program.mk T F1) (Program.mk T F2)) (do
        let x ← behindNumber a
        let y ← behindNumber b
        let p ← program
        if (x.1.block == y.1.block && decide (x.1.block < p.globals.size)) = true then do
            let u ← byteOf x.1
            let v ← byteOf y.1
            pure (u == v)
          else do
            let i ← typeInfo t
            match i.desc with
              | TypeDesc.named "sync.copyChecker" _ => if (x.1 == y.1) = true then pure true else unsupported Unsupported.addressObserved
              | _ => unsupported Unsupported.addressObserved) := by
      intro a b
      refine Tame.bind (tm_behind a) fun x => Tame.bind (tm_behind b) fun y => Tame.prog rfl ?_
      split
      · exact Tame.bind (tm_byteOf _) fun _ => Tame.bind (tm_byteOf _) fun _ => trivial
      · refine Tame.bind (tm_typeInfo t) fun i => ?_
        split
        · split <;> trivial
        · trivial
    rcases x with _ | ⟨k1, n1⟩ | _ | _ | _ | (_ | a) | _ | _ | _ | _ | _ | _ | _ | _ <;> rcases y with _ | ⟨k2, n2⟩ | _ | _ | _ | (_ | b) | _ | _ | _ | _ | _ | _ | _ | _ <;> try trivial
    all_goals first
      | (dsimp only; split <;> trivial)
      | exact two _ _
      | (rcases n1 with (_ | n) | n <;> trivial)
      | (rcases n2 with (_ | n) | n <;> trivial)
  · rename_i h
    refine Tame.und h ?_
    cases x <;> cases y <;> trivial
  · cases ht
end
end Go.Veiled

namespace Go.Veiled
set_option linter.unusedSimpArgs false
set_option linter.unusedSectionVars false
set_option linter.unusedVariables false
open Go.Conc

section
variable {T : Tables} {F1 F2 : Array Func}

theorem tm_stuck {α : Type} (s : String) : (Tame (Program.mk T F1) (Program.mk T F2)) (stuck s : Sem α) := trivial
theorem tm_floatArith (op : BinOp) (k : FloatKind) (a b : Nat) : (Tame (Program.mk T F1) (Program.mk T F2)) (Op.floatArith op k a b) := by
  have last : ∀ r : Option Nat, (Tame (Program.mk T F1) (Program.mk T F2)) (match r with | some r => pure (.float k r) | none => (do pure (.float k (← choose (.nanBits k a b))) : Sem Value)) := by
    intro r
    cases r with
    | some _ => trivial
    | none => exact Tame.bind (tm_choose _) fun _ => trivial
  cases op <;> first | exact Tame.bind (s := pure _) trivial last | exact Tame.bind (s := stuck _) trivial last
theorem tm_floatCmp (op : BinOp) (k : FloatKind) (a b : Nat) : (Tame (Program.mk T F1) (Program.mk T F2)) (Op.floatCmp op k a b) := by cases op <;> trivial
theorem tm_floatToFloat (s : FloatKind) (x : Nat) (d : FloatKind) : (Tame (Program.mk T F1) (Program.mk T F2)) (Conv.floatToFloat s x d) := by
  unfold Conv.floatToFloat
  dsimp +zetaHave only
  repeat' (first | exact trivial | exact Tame.bind (tm_choose _) (fun _ => trivial) | split)
theorem tm_stringOp (op : BinOp) (a b : ByteArray) : (Tame (Program.mk T F1) (Program.mk T F2)) (Op.stringOp op a b) := by
  cases op <;> first | trivial | (unfold Op.stringOp; dsimp only; split <;> trivial)
theorem tm_intArith (op : BinOp) (k : IntKind) (a b : Int) : (Tame (Program.mk T F1) (Program.mk T F2)) (Op.intArith op k a b) := by cases op <;> trivial
theorem tm_intBits (op : BinOp) (k : IntKind) (a b : Int) : (Tame (Program.mk T F1) (Program.mk T F2)) (Op.intBits op k a b) := by cases op <;> trivial
theorem tm_intCmp (op : BinOp) (a b : Int) : (Tame (Program.mk T F1) (Program.mk T F2)) (Op.intCmp op a b) := by cases op <;> trivial
theorem tm_intDiv (op : BinOp) (k : IntKind) (a b : Int) : (Tame (Program.mk T F1) (Program.mk T F2)) (Op.intDiv op k a b) := by
  unfold Op.intDiv
  split
  · exact tm_rtPanic _
  · cases op <;> trivial
theorem tm_shift (op : BinOp) (k : IntKind) (a : Int) (k' : IntKind) (b : Int) : (Tame (Program.mk T F1) (Program.mk T F2)) (Op.shift op k a k' b) := by
  unfold Op.shift
  split
  · exact tm_rtPanic _
  · cases op <;> trivial

theorem tm_unary (op : UnOp) (x : Value) : (Tame (Program.mk T F1) (Program.mk T F2)) (Op.unary op x) := by
  cases op <;> cases x <;> first | trivial | exact tm_intArith _ _ _ _ | exact tm_intBits _ _ _ _ | (rename_i a; cases a <;> trivial)

theorem tm_arith (op : BinOp) (k : FloatKind) (a b : Nat) : (Tame (Program.mk T F1) (Program.mk T F2)) (Op.Complex.arith op k a b) := by
  refine Tame.bind (tm_floatArith _ _ _ _) fun v => ?_
  split <;> trivial
theorem tm_cmp (op : BinOp) (k : FloatKind) (a b : Nat) : (Tame (Program.mk T F1) (Program.mk T F2)) (Op.Complex.cmp op k a b) := Tame.bind (tm_floatCmp _ _ _ _) fun v => tm_asBool v
theorem tm_conv (k : FloatKind) (a : Nat) (d : FloatKind) : (Tame (Program.mk T F1) (Program.mk T F2)) (Op.Complex.conv k a d) := by
  unfold Op.Complex.conv
  split
  · trivial
  · refine Tame.bind (tm_floatToFloat _ _ _) fun v => ?_
    split <;> trivial
theorem tm_product (a b c d : Nat) : (Tame (Program.mk T F1) (Program.mk T F2)) (Op.Complex.product a b c d) := by
  unfold Op.Complex.product
  repeat' (first | exact trivial | exact tm_arith _ _ _ _ | refine Tame.bind ?_ fun _ => ?_)
theorem tm_corrected (s a b c d : Nat) : (Tame (Program.mk T F1) (Program.mk T F2)) (Op.Complex.corrected s a b c d) := by
  unfold Op.Complex.corrected
  repeat' (first | exact trivial | exact tm_arith _ _ _ _ | refine Tame.bind ?_ fun _ => ?_)
theorem tm_opArith (a b : Nat) : (Tame (Program.mk T F1) (Program.mk T F2)) (Op.Complex.quo a b) ∧ (Tame (Program.mk T F1) (Program.mk T F2)) (Op.Complex.mul a b) ∧ (Tame (Program.mk T F1) (Program.mk T F2)) (Op.Complex.add a b) ∧ (Tame (Program.mk T F1) (Program.mk T F2)) (Op.Complex.sub a b) := ⟨tm_arith _ _ _ _, tm_arith _ _ _ _, tm_arith _ _ _ _, tm_arith _ _ _ _⟩
theorem tm_quotient (a b c d : Nat) : (Tame (Program.mk T F1) (Program.mk T F2)) (Op.Complex.quotient a b c d) := by
  unfold Op.Complex.quotient
  dsimp +zetaHave only
  repeat' (with_reducible first | exact Tame.pure' _ | exact tm_arith _ _ _ _ | exact tm_cmp _ _ _ _ | exact tm_corrected _ _ _ _ _ | exact (tm_opArith _ _).1 | exact (tm_opArith _ _).2.1 | exact (tm_opArith _ _).2.2.1 | exact (tm_opArith _ _).2.2.2 | refine Tame.bind ?_ fun _ => ?_ | split)
theorem tm_complex (op : BinOp) (k : FloatKind) (a b c d : Nat) : (Tame (Program.mk T F1) (Program.mk T F2)) (Op.complexOp op k a b c d) := by
  unfold Op.complexOp
  dsimp +zetaHave only
  repeat' (with_reducible first | exact Tame.pure' _ | exact tm_stuck _ | exact tm_arith _ _ _ _ | exact tm_cmp _ _ _ _ | exact tm_conv _ _ _ | exact tm_product _ _ _ _ | exact tm_quotient _ _ _ _ | refine Tame.bind ?_ fun _ => ?_ | split)
theorem tm_binOp {t : TypeId} (ht : plainType (Program.mk T F1) t = true) (op : BinOp) (x y : Value) : (Tame (Program.mk T F1) (Program.mk T F2)) (binOp op t x y) := by
  unfold binOp
  split
  · exact tm_shift _ _ _ _ _
  · exact tm_shift _ _ _ _ _
  · split
    · trivial
    · split
      · exact tm_intArith _ _ _ _
      · exact tm_intArith _ _ _ _
      · exact tm_intArith _ _ _ _
      · exact tm_intDiv _ _ _ _
      · exact tm_intDiv _ _ _ _
      · exact tm_intBits _ _ _ _
      · exact tm_intBits _ _ _ _
      · exact tm_intBits _ _ _ _
      · exact tm_intBits _ _ _ _
      · exact tm_intCmp _ _ _
  · split
    · trivial
    · split
      · exact tm_floatArith _ _ _ _
      · exact tm_floatArith _ _ _ _
      · exact tm_floatArith _ _ _ _
      · exact tm_floatArith _ _ _ _
      · exact tm_floatCmp _ _ _ _
  · split
    · trivial
    · exact tm_complex _ _ _ _ _ _
  · exact tm_stringOp _ _ _
  · exact Tame.bind (tm_equal ht _ _) fun _ => trivial
  · exact Tame.bind (tm_equal ht _ _) fun _ => trivial
  · refine Tame.bind (tm_under t) fun u => ?_
    repeat' (first | exact tm_movedPointer _ _ _ | exact tm_movedNumber _ _ _ | split)
  · exact tm_movedNumber _ _ _
  · exact tm_movedNumber _ _ _
  · exact Tame.bind (tm_behind _) fun _ => Tame.bind (tm_behind _) fun _ => tm_addrSub _ _ _
  · exact Tame.bind (tm_behind _) fun _ => Tame.bind (tm_behind _) fun _ => tm_addrCmp _ _ _
  · exact Tame.bind (tm_behind _) fun _ => Tame.bind (tm_behind _) fun _ => tm_addrCmp _ _ _
  · exact Tame.bind (tm_behind _) fun _ => Tame.bind (tm_behind _) fun _ => tm_addrCmp _ _ _
  · exact Tame.bind (tm_behind _) fun _ => Tame.bind (tm_behind _) fun _ => tm_addrCmp _ _ _
  · exact Tame.bind (tm_behind _) fun _ => tm_addrMod _ _ _
  · exact Tame.bind (tm_behind _) fun _ => tm_addrMod _ _ _
  · exact Tame.bind (tm_behind _) fun _ => tm_addrMod _ _ _
  · trivial
  · trivial
  · trivial
end
end Go.Veiled

namespace Go.Veiled
set_option linter.unusedSimpArgs false
set_option linter.unusedSectionVars false
set_option linter.unusedVariables false
open Go.Conc

theorem Tame.ite {Q P : Program} {α : Type} {c : Prop} [Decidable c] {a b : Sem α} (ha : Tame Q P a) (hb : Tame Q P b) : Tame Q P (if c then a else b) := by split <;> assumption

section
variable {T : Tables} {F1 F2 : Array Func}

theorem tm_unsupported {α : Type} (u : Unsupported) : (Tame (Program.mk T F1) (Program.mk T F2)) (unsupported u : Sem α) := trivial
theorem tm_foldlM {α β : Type} {f : β → α → Sem β} (h : ∀ b a, (Tame (Program.mk T F1) (Program.mk T F2)) (f b a)) : ∀ (l : List α) (b : β), (Tame (Program.mk T F1) (Program.mk T F2)) (l.foldlM f b) := by
  intro l
  induction l with
  | nil => intro b; trivial
  | cons a l ih => intro b; rw [List.foldlM_cons]; exact Tame.bind (h _ _) fun _ => ih _
theorem tm_max2 (x y : Value) : (Tame (Program.mk T F1) (Program.mk T F2)) (Builtin.max2 x y) := by
  unfold Builtin.max2
  split
  · trivial
  · split
    · exact Tame.bind (tm_choose _) fun _ => trivial
    · trivial
    · trivial
    · trivial
  · exact Tame.bind (tm_stringOp _ _ _) fun _ => Tame.bind (tm_asBool _) fun _ => trivial
  · trivial
  · trivial
  · trivial
theorem tm_min2 (x y : Value) : (Tame (Program.mk T F1) (Program.mk T F2)) (Builtin.min2 x y) := by
  unfold Builtin.min2
  split
  · trivial
  · split
    · exact Tame.bind (tm_choose _) fun _ => trivial
    · trivial
    · trivial
    · trivial
  · exact Tame.bind (tm_stringOp _ _ _) fun _ => Tame.bind (tm_asBool _) fun _ => trivial
  · trivial
  · trivial
  · trivial
theorem tm_max (ts : Array TypeId) (t : TypeId) (xs : Array Value) : (Tame (Program.mk T F1) (Program.mk T F2)) (Builtin.max_ ts t xs) := by
  unfold Builtin.max_
  split
  · trivial
  · exact tm_foldlM tm_max2 _ _
theorem tm_min (ts : Array TypeId) (t : TypeId) (xs : Array Value) : (Tame (Program.mk T F1) (Program.mk T F2)) (Builtin.min_ ts t xs) := by
  unfold Builtin.min_
  split
  · trivial
  · exact tm_foldlM tm_min2 _ _
theorem tm_len (ts : Array TypeId) (t : TypeId) (xs : Array Value) : (Tame (Program.mk T F1) (Program.mk T F2)) (Builtin.len_ ts t xs) := by
  unfold Builtin.len_
  split
  · refine Tame.bind (tm_under _) fun u => ?_
    split
    · trivial
    · trivial
    · refine Tame.bind (tm_under _) fun u => ?_
      split <;> trivial
    · trivial
    · trivial
    · trivial
    · refine Tame.obj (fun o => ?_) fun l => .inr trivial
      split <;> trivial
    · refine Tame.obj (fun o => ?_) fun l => .inr trivial
      split <;> trivial
    · trivial
  · trivial
theorem tm_cap (ts : Array TypeId) (t : TypeId) (xs : Array Value) : (Tame (Program.mk T F1) (Program.mk T F2)) (Builtin.cap_ ts t xs) := by
  unfold Builtin.cap_
  split
  · refine Tame.bind (tm_under _) fun u => ?_
    split
    · trivial
    · refine Tame.bind (tm_under _) fun u => ?_
      split <;> trivial
    · trivial
    · trivial
    · refine Tame.obj (fun o => ?_) fun l => .inr trivial
      split <;> trivial
    · trivial
  · trivial
theorem tm_lenOf (x : Value) : (Tame (Program.mk T F1) (Program.mk T F2)) (Builtin.lenOf x) := by unfold Builtin.lenOf; split <;> trivial
theorem tm_firstCells (s n : Nat) (x : Value) : (Tame (Program.mk T F1) (Program.mk T F2)) (Builtin.firstCells s n x) := by
  unfold Builtin.firstCells
  split
  · exact tm_loadCells _ _ _ _
  · trivial
  · trivial
  · trivial
theorem tm_copy (ts : Array TypeId) (t : TypeId) (xs : Array Value) : (Tame (Program.mk T F1) (Program.mk T F2)) (Builtin.copy_ ts t xs) := by
  unfold Builtin.copy_
  dsimp +zetaHave only
  split
  · refine Tame.bind (tm_under _) fun u => ?_
    split
    · split
      · refine Tame.bind (tm_lenOf _) fun n => Tame.bind (tm_size _) fun s => Tame.bind (tm_firstCells _ _ _) fun c => ?_
        split
        · exact Tame.bind (tm_storeCells _ _ _) fun _ => trivial
        · trivial
      · trivial
    · trivial
  · trivial

theorem looks_holds (a : Addr) (m : Nat) : Looks (Program.mk T F1) (Builtin.holdsCells a m) := fun s => by
  show Looks _ (match s with | some (_, n) => pure (a.spot.isNone && a.off + m ≤ n) | none => pure false : Sem Bool)
  cases s <;> trivial
theorem looks_share (s l n : Nat) (base : Option Addr) (x : Value) : Looks (Program.mk T F1) (Builtin.mayShare s l n base x) := by
  unfold Builtin.mayShare
  dsimp +zetaHave only
  have tail : ∀ (there : Bool), Looks (Program.mk T F1) (if (!there) = true then pure true else (match x with
      | .slice (some b) _ _ => (do
        let h ← Builtin.holdsCells b (n * s)
        pure (!h || base.any (fun y => y.block == b.block)))
      | _ => pure false : Sem Bool)) := fun there => by
    split
    · trivial
    · split
      · exact looks_bind (looks_holds _ _) fun _ => trivial
      · trivial
  split
  · exact looks_bind (s := pure true) trivial tail
  · exact looks_bind (looks_holds _ _) fun _ => looks_bind (s := frozen _) (fun _ => trivial) fun _ => looks_bind (s := pure _) trivial tail
theorem tm_shareHalt {α : Type} (s l n : Nat) (base : Option Addr) (x : Value) (u : Unsupported) : (Tame (Program.mk T F1) (Program.mk T F2)) (do
    let b ← Builtin.mayShare s l n base x
    if (!b) = true then do
      mark .noRoom
      unsupported u
    else (unsupported u : Sem α)) :=
  looks_tame (looks_share _ _ _ _ _) (fun b => by split <;> trivial) fun b => by
    split
    · exact ⟨rfl, trivial⟩
    · trivial
theorem tm_append (ts : Array TypeId) (t : TypeId) (xs : Array Value) : (Tame (Program.mk T F1) (Program.mk T F2)) (Builtin.append_ ts t xs) := by
  unfold Builtin.append_
  dsimp +zetaHave only
  split
  · refine Tame.bind (tm_under _) fun u => ?_
    split
    · split
      · refine Tame.bind (tm_size _) fun size => ?_
        repeat' (first
          | with_reducible exact Tame.pure' _
          | with_reducible exact tm_rtPanic _
          | with_reducible exact tm_typeInfo _
          | with_reducible exact tm_choose _
          | with_reducible exact tm_asInt _
          | with_reducible exact tm_under _
          | with_reducible exact tm_size _
          | with_reducible exact tm_firstCells _ _ _
          | with_reducible exact tm_storeCells _ _ _
          | with_reducible exact tm_zero _
          | with_reducible exact tm_askRoom _
          | with_reducible exact tm_newRow _ _
          | with_reducible exact tm_lenOf _
          | with_reducible exact tm_shareHalt _ _ _ _ _ _
          | with_reducible refine Tame.bind ?_ fun _ => ?_
          | refine Tame.ite ?_ ?_
          | split)
      · trivial
    · trivial
  · trivial
/-- The types of the numbers. -/
def intType (p : Program) (t : TypeId) : Bool :=
  match p.underlying t with
  | some (.int _) => true
  | _ => false
theorem tm_floatToInt (k : FloatKind) (a : Nat) (d : IntKind) : (Tame (Program.mk T F1) (Program.mk T F2)) (Conv.floatToInt k a d) := by
  unfold Conv.floatToInt
  dsimp +zetaHave only
  split
  · split
    · trivial
    · exact Tame.bind (tm_choose _) fun _ => trivial
  · exact Tame.bind (tm_choose _) fun _ => trivial
theorem tm_convert {s d : TypeId} (hs : intType (Program.mk T F1) s = true) (hd : intType (Program.mk T F1) d = true) (x : Value) : (Tame (Program.mk T F1) (Program.mk T F2)) (convert s d x) := by
  unfold intType at hs hd
  split at hs
  · rename_i k1 h1
    split at hd
    · rename_i k2 h2
      unfold convert
      refine Tame.und h1 (Tame.und h2 ?_)
      rcases x with _ | _ | _ | _ | _ | (_ | a) | _ | _ | _ | _ | _ | _ | _ | _ <;> first | trivial | exact tm_floatToInt _ _ _
    · cases hd
  · cases hs
theorem plain_noGuard {p : Program} {t : TypeId} (h : plainType p t = true) : p.eqGuardType p.depth t = false := by
  unfold plainType at h
  have e : p.depth = (2 * (p.types.size + Made.depth) + 1) + 1 := rfl
  rw [e]
  unfold Program.eqGuardType
  split at h <;> first | (rename_i hu; rw [hu]) | (cases h)
theorem plain_noGuardIn {t : TypeId} (h : plainType (Program.mk T F1) t = true) : (Tame (Program.mk T F1) (Program.mk T F2)) (Op.eqGuardIn Op.maxDepth t .nilIface .nilIface) := by
  show (Tame (Program.mk T F1) (Program.mk T F2)) (Op.eqGuardIn (9999 + 1) t .nilIface .nilIface)
  unfold Op.eqGuardIn
  dsimp +zetaHave only
  unfold plainType at h
  split at h
  · rename_i hu; exact Tame.und hu trivial
  · rename_i hu; exact Tame.und hu trivial
  · rename_i hu; exact Tame.und hu trivial
  · cases h
theorem guardType_eq {P Q : Program} (h : P.toTables = Q.toTables) : ∀ (d : Nat) (t : TypeId), P.eqGuardType d t = Q.eqGuardType d t := by
  intro d
  induction d with
  | zero => intro t; rfl
  | succ d ih => intro t; simp only [Program.eqGuardType, underlying_eq h, ih]
theorem tm_guard {t : TypeId} (ht : plainType (Program.mk T F1) t = true) (op : BinOp) (x y : Operand) (a b : Value) : (Tame (Program.mk T F1) (Program.mk T F2)) (eqGuard op t x y a b) := by
  have key : (Tame (Program.mk T F1) (Program.mk T F2)) (do
      let p ← program
      let q ← program
      if (!p.eqGuardType q.depth t) = true then pure ()
      else do
        let z ← Op.eqGuardIn Op.maxDepth t a b
        if z = true then unsupported (.noEntry "binop/eql: two nil values of an interface type with methods, in a part of a struct or an array") else pure () : Sem Unit) := by
    refine Tame.prog ?_ (Tame.prog rfl ?_)
    · simp only [guardType_eq (P := Program.mk T F2) (Q := Program.mk T F1) rfl]
    · rw [plain_noGuard ht]
      trivial
  unfold eqGuard
  repeat' (first
    | with_reducible exact key
    | with_reducible exact Tame.pure' _
    | with_reducible exact tm_unsupported _
    | with_reducible exact plain_noGuardIn ht
    | with_reducible refine Tame.bind ?_ fun _ => ?_
    | refine Tame.ite ?_ ?_
    | split)

/-- The operations, but calls, whose trees are tame. -/
def okOp (p : Program) (o : Oper) : Bool :=
  match o.op with
  | .move _ | .assign _ | .pick _ _ _ | .alloc _ | .box _ _ | .build _ _ | .buildSlice _ _ _ | .load _ _ | .store _ _ _ | .unOp _ _ _ | .makeFunc _ _ _ | .makeSlice _ _ _ | .extract _ _ | .index _ _ _ | .indexAddr _ _ _ | .fieldAddr _ _ _ => true
  | .binOp _ t _ _ _ => plainType p t
  | .convert s d _ => intType p s && intType p d
  | .call { callee := .builtin b, .. } => match b with | .append | .cap | .copy | .len | .max | .min => true | _ => false
  | .call { callee := .value _, .. } => true
  | _ => false
def isCall (o : Oper) : Bool := match o.op with | .call { callee := .value _, .. } => true | _ => false

theorem tm_op (ρ : Operand → Value) {o : Oper} (h : okOp (Program.mk T F1) o = true) (hc : isCall o = false) : (Tame (Program.mk T F1) (Program.mk T F2)) (execOp ρ o) := by
  obtain ⟨dst, op, type, pos, after, guard⟩ := o
  have vl : ∀ {s : Sem Value}, (Tame (Program.mk T F1) (Program.mk T F2)) s → (Tame (Program.mk T F1) (Program.mk T F2)) (do pure (.value (← s)) : Sem Next) := fun hs => Tame.bind hs fun _ => trivial
  have ul : ∀ {s : Sem Unit}, (Tame (Program.mk T F1) (Program.mk T F2)) s → (Tame (Program.mk T F1) (Program.mk T F2)) (do s; pure .skip : Sem Next) := fun hs => Tame.bind hs fun _ => trivial
  cases op with
  | move x => trivial
  | assign x => trivial
  | pick c a b => exact Tame.bind (tm_asBool _) fun _ => trivial
  | alloc e => exact vl (tm_alloc _)
  | box e x => exact vl (tm_box _ _)
  | build t p => exact vl (tm_build _ _)
  | buildSlice t n p => exact vl (tm_buildSlice _ _ _)
  | load t a => exact vl (tm_loadAt _ _)
  | store t a x => exact ul (tm_storeAt _ _ _)
  | unOp u t x => exact vl (tm_unary _ _)
  | makeFunc f a b => exact trivial
  | makeSlice t l c => exact vl (tm_makeSlice _ _ _)
  | extract t i => exact vl (tm_extract _ _)
  | index t x i => exact vl (tm_index _ _ _)
  | indexAddr t x i => exact vl (tm_indexAt _ _ _)
  | fieldAddr t x f => exact vl (tm_fieldAt _ _ _)
  | binOp b t x y z => exact vl (Tame.bind (tm_guard h _ _ _ _ _) fun _ => tm_binOp h _ _ _)
  | convert s d x =>
    simp only [okOp, Bool.and_eq_true] at h
    exact vl (tm_convert h.1 h.2 _)
  | call c =>
    obtain ⟨callee, args, ats⟩ := c
    cases callee with
    | value f => cases hc
    | invoke r n => cases h
    | builtin b =>
      cases b <;> first
        | (cases h; done)
        | exact vl (tm_append _ _ _)
        | exact vl (tm_cap _ _ _)
        | exact vl (tm_copy _ _ _)
        | exact vl (tm_len _ _ _)
        | exact vl (tm_max _ _ _)
        | exact vl (tm_min _ _ _)
  | _ => cases h
end
end Go.Veiled

namespace Go.Veiled
set_option linter.unusedSimpArgs false
set_option linter.unusedSectionVars false
set_option linter.unusedVariables false
open Go.Conc

/-- Code of tame operations; without goto and range over a function. -/
def codeOk (p : Program) : Code → Bool
  | .skip | .exit _ | .label _ | .ret | .refuse _ => true
  | .region _ ops _ => ops.toList.all (okOp p)
  | .seq a b | .cond _ a b => codeOk p a && codeOk p b
  | .block _ a | .loop a | .scope a => codeOk p a
  | .goto _ => true
  | .rangeFunc _ _ _ _ => false
def itemOk (p : Program) : Item → Bool
  | .code c => codeOk p c
  | .inBlock _ => true
  | .inLoop c | .inScope c => codeOk p c
  | .inRegion ops _ => ops.toList.all (okOp p)
  | _ => false

theorem exitTo_ok {p : Program} {id : Nat} : ∀ {k k' : List Item}, exitTo id k = some k' → (∀ it ∈ k, itemOk p it = true) → ∀ it ∈ k', itemOk p it = true := by
  intro k
  induction k with
  | nil => intro k' h; cases h
  | cons it k ih =>
    intro k' h hk
    have hk' : ∀ x ∈ k, itemOk p x = true := fun x hx => hk x (List.mem_cons_of_mem _ hx)
    cases it <;> simp only [exitTo] at h <;> first
      | exact ih h hk'
      | (split at h
         · cases h; exact hk'
         · exact ih h hk')
theorem findLabel_ok {p : Program} {l : Nat} : ∀ {c c' : Code}, findLabel c l = some c' → codeOk p c = true → codeOk p c' = true := by
  intro c
  induction c with
  | seq a b iha ihb =>
    intro c' h hc
    simp only [codeOk, Bool.and_eq_true] at hc
    simp only [findLabel] at h
    split at h
    · rename_i rest hr
      cases h
      simp only [codeOk, Bool.and_eq_true]
      exact ⟨iha hr hc.1, hc.2⟩
    · exact ihb h hc.2
  | label l' =>
    intro c' h hc
    simp only [findLabel] at h
    split at h
    · cases h; rfl
    · cases h
  | _ => intro c' h hc; simp only [findLabel] at h; cases h
theorem gotoIn_ok {p : Program} {l : Nat} : ∀ {k k' : List Item}, gotoIn l k = some k' → (∀ it ∈ k, itemOk p it = true) → ∀ it ∈ k', itemOk p it = true := by
  intro k
  induction k with
  | nil => intro k' h; cases h
  | cons it k ih =>
    intro k' h hk
    have hk' : ∀ x ∈ k, itemOk p x = true := fun x hx => hk x (List.mem_cons_of_mem _ hx)
    cases it <;> simp only [gotoIn] at h <;> first
      | exact ih h hk'
      | (rename_i body
         split at h
         · rename_i rest hr
           cases h
           have hb : codeOk p body = true := hk (.inScope body) (by simp)
           intro x hx
           simp only [List.mem_cons] at hx
           rcases hx with rfl | rfl | hx
           · exact findLabel_ok hr hb
           · exact hb
           · exact hk' x hx
         · exact ih h hk')

/-- Two programs with the same tables: each function of the first is one that refuses, or one of the two that are taken by themselves, or the same in both, of tame code. -/
structure Twin (T : Tables) (F1 F2 : Array Func) (special : FuncId → Prop) : Prop where
  ahead : (Program.mk T F1).follows .staticDataAhead = true
  step : ∀ g, (Program.mk T F1).stepOf g = none
  fns : ∀ (f : FuncId) (fn : Func), F1[f]? = some fn → (fn.name == "runtime.NumGoroutine") = false ∧ ∃ c, fn.body = some c ∧ ∃ fn2, F2[f]? = some fn2 ∧ (fn2.name == "runtime.NumGoroutine") = false ∧
    ((∃ why, c = .refuse why) ∨ special f ∨ (fn2 = fn ∧ codeOk (Program.mk T F1) c = true))
  own : ∀ (f : FuncId) (fn fn2 : Func), F1[f]? = some fn → F2[f]? = some fn2 → special f → ∃ c2, fn2.body = some c2

/-- A function that is the same in both. -/
def Fine (T : Tables) (F1 F2 : Array Func) (f : FuncId) : Prop := ∃ fn, F1[f]? = some fn ∧ F2[f]? = some fn

structure Nice (T : Tables) (F1 F2 : Array Func) (fr : Frame) : Prop where
  defers : fr.defers = []
  round : fr.roundOf = none
  kind : fr.kind = .normal
  fine : Fine T F1 F2 fr.fn
  todo : ∀ it ∈ fr.todo, itemOk (Program.mk T F1) it = true

section
variable {T : Tables} {F1 F2 : Array Func}

/-- A step that both take: in the first from v to v'. -/
structure Matches (S : List Frame → Goroutine) (v : World) (KQ KP : List Frame → Goroutine) (v' : World) (es : Array Event) : Prop where
  q : ∀ l, stepG (Program.mk T F1) true (S l) v = .go (KQ l) v' es
  p : ∀ (Lo : Nat → Option Obj) w, Veil Lo v w → ∃ w', Veil Lo v' w' ∧ ∀ l, stepG (Program.mk T F2) true (S l) w = .go (KP l) w' es
  size : v.heap.size ≤ v'.heap.size
  noLoop : NoLoop v'
  blind : ∀ r, Blind v r → Blind v' r
  plain : ∀ e ∈ es, Plain (Blind v) v'.heap.size e
  tape : v'.tape = v.tape
  drawn : v.drawn ≤ v'.drawn
  local_ : ∀ (T' : Nat → Question → Nat) (d' : Nat), (∀ i, i < v'.drawn - v.drawn → T' (d' + i) = v.tape (v.drawn + i)) →
    ∀ l, stepG (Program.mk T F1) true (S l) (v.retape T' d') = .go (KQ l) (v'.retape T' (d' + (v'.drawn - v.drawn))) es

theorem Matches.ctl {S : List Frame → Goroutine} {v : World} {K : List Frame → Goroutine} (hn : NoLoop v) (h : ∀ (p : Program) (w : World) l, stepG p true (S l) w = .go (K l) w) : Matches (T := T) (F1 := F1) (F2 := F2) S v K K v #[] :=
  ⟨fun l => h _ _ l, fun _ w hw => ⟨w, hw, fun l => h _ _ l⟩, Nat.le_refl _, hn, fun _ h => h, by simp, rfl, Nat.le_refl _, fun T' d' _ l => by simpa using h _ (v.retape T' d') l⟩

/-- How a step of a nice frame comes out. -/
inductive Turn (special : FuncId → Prop) (fr : Frame) (v : World) : Prop
  | on (fr' : Frame) (v' : World) (es : Array Event) : Nice T F1 F2 fr' → (fr'.mode = .run ∨ fr'.mode = .returning) → fr'.fn = fr.fn → Matches (T := T) (F1 := F1) (F2 := F2) (G fr) v (G fr') (G fr') v' es → Turn special fr v
  | enter (f : FuncId) (args : Array Value) (v' : World) (es : Array Event) : (∃ c, (F1[f]?).bind (·.body) = some c ∧ (∀ why, c ≠ .refuse why) ∧ (codeOk (Program.mk T F1) c = true ∨ special f)) → (special f ∨ Fine T F1 F2 f) →
      Matches (T := T) (F1 := F1) (F2 := F2) (G fr) v (fun l => G (Frame.enter (Program.mk T F1) f args .normal) (fr :: l)) (fun l => G (Frame.enter (Program.mk T F2) f args .normal) (fr :: l)) v' es → Turn special fr v
  | refuse (f : FuncId) (args : Array Value) (v' : World) (es : Array Event) (why : String) : (F1[f]?).bind (·.body) = some (.refuse why) → (∀ l, stepG (Program.mk T F1) true (G fr l) v = .go (G (Frame.enter (Program.mk T F1) f args .normal) (fr :: l)) v' es) → Turn special fr v
  | raise (chain : List PanicEntry) (v' : World) (es : Array Event) : (∀ l, stepG (Program.mk T F1) true (G fr l) v = .go (G { fr with mode := .panicking chain } l) v' es) → Turn special fr v
  | stop : (∀ l, ∃ o w es, stepG (Program.mk T F1) true (G fr l) v = .ended o w es) → Turn special fr v
end
end Go.Veiled
