/-
  What is drawn from a code for CubeValue; two tables.
  What is drawn from a code for JoinTables: two tables.
-/
import Derived.Test.YtlmhdocfdpbhmaaDrawF

namespace Go.Proofs.Ytlmhdocfdpbhmaa
open Go.RowKit Plain
set_option linter.unusedVariables false
attribute [local go_sem ↓] Go.wp_at_zero Go.wp_at_succ

/-- A draw of yes or no. -/
def OnceOut (b : Nat) (av : Value) (len : Nat) (w : World) (e : Ending) (w' : World) : Prop := ∃ r : Bool, e = .returned (.bool r) ∧ CurAt w' b av len ∧ w.grownBy w' (some b)
theorem Draw.once (b : Nat) (av : Value) (len : Nat) (n : Int) (hn : n ≤ 2000000000) (w : World) (hc : CurAt w b av len) (hs : SrcAt w b av len) :
    Calls Try.prog 98 #[.pointer (some ⟨b, 0, none⟩), .int .i64 n] w (OnceOut b av len w) := by
  have H := Lib.hid (Cur.below b av len n hn w hc hs)
  clear hc hs hn
  go_enter Try.func98, Try.ntmps98
  go_wp2_with fail
  refine H.out.mono ?_
  rintro e w1 ⟨x, rfl, _, hc1, hg1⟩
  have HC1 := Lib.hid hc1
  have HG1 := Lib.hid hg1
  clear hc1 hg1
  go_wp2
  go_ret
  exact ⟨_, rfl, HC1.out, HG1.out⟩

end Go.Proofs.Ytlmhdocfdpbhmaa

namespace Go.Proofs.Ytlmhdocfdpbhmaa
open Go.RowKit Plain
set_option linter.unusedVariables false
attribute [local go_sem ↓] Go.wp_at_zero Go.wp_at_succ

/-- Two tables. -/
def TwoOut (w : World) (e : Ending) (w' : World) : Prop :=
  ∃ n a m c : Int, e = .returned (.tuple #[.agg #[.int .i64 n, .int .i64 a], .agg #[.int .i64 m, .int .i64 c]]) ∧ In64 n ∧ In64 a ∧ In64 m ∧ In64 c ∧ Below w.heap.size w w'
theorem twoRes {w : World} {p q : Nat} (hne : p ≠ q) {x0 x1 y0 y1 : Value} (x y u v : Value) (h0 : w.cell? ⟨p, 0, none⟩ = some x0) (h1 : w.cell? ⟨p, 1, none⟩ = some x1) (h2 : w.cell? ⟨q, 0, none⟩ = some y0) (h3 : w.cell? ⟨q, 1, none⟩ = some y1) :
    ((((w.setCell ⟨p, 0, none⟩ x).setCell ⟨p, 1, none⟩ y).setCell ⟨q, 0, none⟩ u).setCell ⟨q, 1, none⟩ v).cell? ⟨p, 0, none⟩ = some x ∧ ((((w.setCell ⟨p, 0, none⟩ x).setCell ⟨p, 1, none⟩ y).setCell ⟨q, 0, none⟩ u).setCell ⟨q, 1, none⟩ v).cell? ⟨p, 1, none⟩ = some y ∧
    ((((w.setCell ⟨p, 0, none⟩ x).setCell ⟨p, 1, none⟩ y).setCell ⟨q, 0, none⟩ u).setCell ⟨q, 1, none⟩ v).cell? ⟨q, 0, none⟩ = some u ∧ ((((w.setCell ⟨p, 0, none⟩ x).setCell ⟨p, 1, none⟩ y).setCell ⟨q, 0, none⟩ u).setCell ⟨q, 1, none⟩ v).cell? ⟨q, 1, none⟩ = some v := by
  obtain ⟨a0, a1⟩ := keepT (u := x) (v := y) h0 h1
  have b0 := keepS (p := ⟨p, 1, none⟩) (u := y) hne (keepS (p := ⟨p, 0, none⟩) (u := x) hne h2)
  have b1 := keepS (p := ⟨p, 1, none⟩) (u := y) hne (keepS (p := ⟨p, 0, none⟩) (u := x) hne h3)
  obtain ⟨c0, c1⟩ := keepT (u := u) (v := v) b0 b1
  exact ⟨keepS (Ne.symm hne) (keepS (Ne.symm hne) a0), keepS (Ne.symm hne) (keepS (Ne.symm hne) a1), c0, c1⟩
theorem grownAny {w w' : World} (hb : Below w.heap.size w w') (r : Option Nat) : w.grownBy w' r := ⟨hb.os, hb.tape, hb.output, hb.size, fun i hi _ => hb.block i hi⟩

end Go.Proofs.Ytlmhdocfdpbhmaa
