/-
  VariableTable of the program: a table made by a function value.
-/
import Derived.Test.YtecakbjcnabpnaaResA
import Derived.Shelf.Abstract
namespace Go.Proofs.Ytecakbjcnabpnaa
open Go.RowKit Plain
set_option linter.unusedVariables false

theorem varW_tabN (i k : Nat) : varW i k = tabN (fun x => bitN x i) k := by
  induction k with
  | zero => rfl
  | succ k ih =>
    show (if bitN k i = 1 then varW i k ||| 2 ^ k else varW i k) = (if bitN k i = 1 then tabN (fun x => bitN x i) k ||| 2 ^ k else tabN (fun x => bitN x i) k)
    rw [ih]

theorem Gives.of_same {g : Nat} {lb : Array Value} {n : Nat} {v : Nat → Nat} {w : World}
    (h : ∀ (W : World) (x : Nat), x < 2 ^ n → Below w.heap.size w W → Calls Try.prog g (#[.int .i64 x] ++ lb) W fun e w' => e = .returned (.int .i64 (v x : Int)) ∧ W = w') : Gives g lb n v w :=
  fun W x hx hb => (h W x hx hb).mono fun e w' ⟨h1, h2⟩ => ⟨h1, h2 ▸ Below.refl _ _⟩
theorem Gives.of_drew {g : Nat} {lb : Array Value} {n : Nat} {v : Nat → Nat} {w : World}
    (h : ∀ (W : World) (x : Nat), x < 2 ^ n → Below w.heap.size w W → Calls Try.prog g (#[.int .i64 x] ++ lb) W fun e w' => e = .returned (.int .i64 (v x : Int)) ∧ ∃ m, w' = W.drewN m) : Gives g lb n v w :=
  fun W x hx hb => (h W x hx hb).mono fun e w' ⟨h1, m, h2⟩ => ⟨h1, h2 ▸ below_drewN (Below.refl _ _) m⟩
/-- A cell that lay when the function value was made. -/
theorem cellOn {w W : World} {p : Addr} {v : Value} (hb : Below w.heap.size w W) (h : w.cell? p = some v) : W.cell? p = some v :=
  (hb.cell (World.block_lt_of_cell? w p h)).trans h

theorem pow5 {n x : Nat} (hn : n ≤ 5) (hx : x < 2 ^ n) : x < 2 ^ 5 := Nat.lt_of_lt_of_le hx (Nat.pow_le_pow_right (by decide) hn)
end Go.Proofs.Ytecakbjcnabpnaa
