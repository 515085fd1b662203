/-
  Bits put into inputs and taken out; tables made by a function value; VariableTable of the program.
  VariableTable of the program: a table made by a function value.
-/
import Derived.Test.YtbgjiblfnljigaaTabK
import Derived.Test.YtbgjiblfnljigaaPlainR
import Derived.Carry
import Derived.OneCell
import Derived.Shelf.Abstract

namespace Go.Proofs.Ytbgjiblfnljigaa
open Go.RowKit Plain
set_option linter.unusedVariables false

/-- A callee that only draws, met in a region that draws its order. -/
theorem quiet_more {P : Program} {f : FuncId} {args : Array Value} {w : World} {n : Nat} {v : Value}
    (h : Calls P f args (w.drewN n) fun e w' => e = .returned v ∧ ∃ m, w' = (w.drewN n).drewN m) : Calls P f args (w.drewN n) fun e w'' => e = .returned v ∧ ∃ m, w'' = w.drewN m :=
  h.mono fun _ _ ⟨he, m, hm⟩ => ⟨he, n + m, by rw [hm]; simp⟩

/-- A block that lay, lies. -/
theorem blockOn {X w' : World} {b : Nat} {o : Obj} (h : X.heap[b]? = some o) (hb : Below X.heap.size X w') : w'.heap[b]? = some o :=
  (hb.block b (lt_of_block h)).trans h

theorem cells2 {w : World} {b : Nat} {x y : Value} {T : TypeId} (h : w.heap[b]? = some (.cells #[x, y] T (0, 0))) :
    w.cell? ⟨b, 0, none⟩ = some x ∧ w.cell? ⟨b, 1, none⟩ = some y ∧ w.frozen? ⟨b, 0, none⟩ = false ∧ w.frozen? ⟨b, 1, none⟩ = false := by
  refine ⟨?_, ?_, ?_, ?_⟩
  · rw [cell_of_row w b 0 _ _ (0, 0) h]; rfl
  · rw [cell_of_row w b 1 _ _ (0, 0) h]; rfl
  · exact frozen_of_row w b 0 _ _ h
  · exact frozen_of_row w b 1 _ _ h

/-- What is asked of a function value that tells the value at each input. -/
def Gives (g : Nat) (lb : Array Value) (n : Nat) (v : Nat → Nat) (w : World) : Prop :=
  ∀ (W : World) (x : Nat), x < 2 ^ n → Below w.heap.size w W → Calls Try.prog g (#[.int .i64 x] ++ lb) W fun e w' => e = .returned (.int .i64 (v x : Int)) ∧ Below W.heap.size W w'

end Go.Proofs.Ytbgjiblfnljigaa

namespace Go.Proofs.Ytbgjiblfnljigaa
open Go.RowKit Plain
set_option linter.unusedVariables false

theorem varW_tabN (i k : Nat) : varW i k = tabN (fun x => bitN x i) k := by
  induction k with
  | zero => rfl
  | succ k ih =>
    show (if bitN k i = 1 then varW i k ||| 2 ^ k else varW i k) = (if bitN k i = 1 then tabN (fun x => bitN x i) k ||| 2 ^ k else tabN (fun x => bitN x i) k)
    rw [ih]

theorem Gives.of_same {g : Nat} {lb : Array Value} {n : Nat} {v : Nat → Nat} {w : World}
    (h : ∀ (W : World) (x : Nat), x < 2 ^ n → Below w.heap.size w W → Calls Try.prog g (#[.int .i64 x] ++ lb) W fun e w' => e = .returned (.int .i64 (v x : Int)) ∧ W = w') : Gives g lb n v w :=
  fun W x hx hb => (h W x hx hb).mono fun e w' ⟨h1, h2⟩ => ⟨h1, h2 ▸ Below.refl _ _⟩
theorem Gives.of_drew {g : Nat} {lb : Array Value} {n : Nat} {v : Nat → Nat} {w : World}
    (h : ∀ (W : World) (x : Nat), x < 2 ^ n → Below w.heap.size w W → Calls Try.prog g (#[.int .i64 x] ++ lb) W fun e w' => e = .returned (.int .i64 (v x : Int)) ∧ ∃ m, w' = W.drewN m) : Gives g lb n v w :=
  fun W x hx hb => (h W x hx hb).mono fun e w' ⟨h1, m, h2⟩ => ⟨h1, h2 ▸ below_drewN (Below.refl _ _) m⟩
/-- A cell that lay when the function value was made. -/
theorem cellOn {w W : World} {p : Addr} {v : Value} (hb : Below w.heap.size w W) (h : w.cell? p = some v) : W.cell? p = some v :=
  (hb.cell (World.block_lt_of_cell? w p h)).trans h

theorem pow5 {n x : Nat} (hn : n ≤ 5) (hx : x < 2 ^ n) : x < 2 ^ 5 := Nat.lt_of_lt_of_le hx (Nat.pow_le_pow_right (by decide) hn)

end Go.Proofs.Ytbgjiblfnljigaa
