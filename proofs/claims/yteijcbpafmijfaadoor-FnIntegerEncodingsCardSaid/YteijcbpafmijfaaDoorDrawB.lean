/-
  The three draws of the law of chapter 1.
-/
import Derived.Test.YteijcbpafmijfaaDoorDrawA
namespace Go.Proofs.YteijcbpafmijfaaDoor
open Go.RowKit Plain
set_option linter.unusedVariables false

theorem belowGrown {w w1 w2 : World} {b : Nat} (h : Below w.heap.size w w1) (hg : w1.grownBy w2 (some b)) (hb : w.heap.size ≤ b) : Below w.heap.size w w2 :=
  h.grown hg h.size (fun k hk => by cases hk; exact hb)

/-- Some number in the range of an int. -/
def SomeNum (w : World) (e : Ending) (w' : World) : Prop := ∃ n : Int, e = .returned (.int .i64 n) ∧ In64 n ∧ Below w.heap.size w w'
/-- Some text of at most 40 bytes. -/
def SomeText (w : World) (e : Ending) (w' : World) : Prop := ∃ l : List UInt8, e = .returned (.string ⟨l.toArray⟩) ∧ l.length ≤ 40 ∧ Below w.heap.size w w'
/-- Two numbers. -/
def SomeTwo (w : World) (e : Ending) (w' : World) : Prop := ∃ n m : Int, e = .returned (.tuple #[.int .i64 n, .int .i64 m]) ∧ In64 n ∧ -1 ≤ m ∧ m ≤ 8 ∧ Below w.heap.size w w'

set_option maxRecDepth 100000 in
theorem Draw.encodeVarint (av : Value) (len : Nat) (w : World) (hc : CodeIn w av len) :
    Calls Tryd.prog 7 #[av] w (SomeNum w) := by
  have HC := Lib.hid (Cur.new av len w hc)
  obtain ⟨a, cap, rfl, _, _⟩ := hc
  go_enter Tryd.func7, Tryd.ntmps7
  go_wp2_with fail
  refine HC.out.mono ?_
  rintro e w1 ⟨b, rfl, hb, hc1, hs1, hb1⟩
  have HC1 := Lib.hid hc1
  have HS1 := Lib.hid hs1
  have HB1 := Lib.hid hb1
  clear hc1 hs1 hb1
  go_wp2_with fail
  refine (Draw.num b _ len _ HC1.out HS1.out).mono ?_
  rintro e w2 ⟨x, rfl, hx, _, hg⟩
  have HX := Lib.hid hx
  have HB2 := Lib.hid (belowGrown HB1.out hg hb)
  clear hx hg
  go_wp2
  go_ret
  exact ⟨x, rfl, HX.out, HB2.out⟩

set_option maxRecDepth 100000 in
theorem Draw.encodeHex (av : Value) (len : Nat) (w : World) (hc : CodeIn w av len) :
    Calls Tryd.prog 8 #[av] w (SomeText w) := by
  have HC := Lib.hid (Cur.new av len w hc)
  obtain ⟨a, cap, rfl, _, _⟩ := hc
  go_enter Tryd.func8, Tryd.ntmps8
  go_wp2_with fail
  refine HC.out.mono ?_
  rintro e w1 ⟨b, rfl, hb, hc1, hs1, hb1⟩
  have HC1 := Lib.hid hc1
  have HS1 := Lib.hid hs1
  have HB1 := Lib.hid hb1
  clear hc1 hs1 hb1
  go_wp2_with fail
  refine (Draw.text b _ len 40 (by omega) _ HC1.out HS1.out).mono ?_
  rintro e w2 ⟨l, rfl, hl, _, hg⟩
  have HL : Hid (l.length ≤ 40) := Lib.hid (by omega)
  have HB2 := Lib.hid (belowGrown HB1.out hg hb)
  clear hl hg
  go_wp2
  go_ret
  exact ⟨l, rfl, HL.out, HB2.out⟩

set_option maxRecDepth 100000 in
theorem Draw.encodeFixed (av : Value) (len : Nat) (w : World) (hc : CodeIn w av len) :
    Calls Tryd.prog 11 #[av] w (SomeTwo w) := by
  have HC := Lib.hid (Cur.new av len w hc)
  obtain ⟨a, cap, rfl, _, _⟩ := hc
  go_enter Tryd.func11, Tryd.ntmps11
  go_wp2_with fail
  refine HC.out.mono ?_
  rintro e w1 ⟨b, rfl, hb, hc1, hs1, hb1⟩
  have HC1 := Lib.hid hc1
  have HS1 := Lib.hid hs1
  have HB1 := Lib.hid hb1
  clear hc1 hs1 hb1
  go_wp2_with fail
  refine (Draw.num b _ len _ HC1.out HS1.out).mono ?_
  rintro e w2 ⟨x, rfl, hx, hc2, hg⟩
  have HX := Lib.hid hx
  have HC2 := Lib.hid hc2
  have HS2 := Lib.hid (HS1.out.grown hg)
  have HB2 := Lib.hid (belowGrown HB1.out hg hb)
  clear hx hg hc2
  go_wp2_with fail
  refine (Cur.below b _ len 10 (by omega) _ HC2.out HS2.out).mono ?_
  rintro e w3 ⟨y, rfl, hy, _, hg⟩
  have HB3 := Lib.hid (belowGrown HB2.out hg hb)
  have hy1 := hy.1
  have hy2 := hy.2.1 (by omega)
  clear hy hg
  go_wp2
  go_ret2
  exact ⟨x, y - 1, rfl, HX.out, by omega, by omega, HB3.out⟩

set_option maxRecDepth 100000 in
theorem Draw.big (a : Option Addr) (len cap : Nat) (hl : (len : Int) ≤ 9223372036854775807) (w : World) :
    Calls Tryd.prog 6 #[.slice a len cap] w fun e w' => e = .returned (.bool (decide (1048576 < (len : Int)))) ∧ w = w' := by
  go_enter Tryd.func6, Tryd.ntmps6
  go_wp2
  go_ret
  exact ⟨rfl, rfl⟩
end Go.Proofs.YteijcbpafmijfaaDoor
