/-
  The twin's own body: SpectrumOf, one sum after the other.
-/
import Derived.Test.YtechkghnmgimbaaGoA
import Derived.Test.YtechkghnmgimbaaChecked
namespace Go.Proofs.Tq
open Go.Veiled

def o (d : Nat) (x : Op) (t : TypeId) : Oper := { dst := some d, op := x, type := t, pos := "", after := #[], guard := none }
def st (t : TypeId) (a x : Nat) : Oper := { dst := none, op := .store t (.tmp a) (.tmp x), type := 0, pos := "", after := #[], guard := none }
def cl (f : FuncId) (args : Array Operand) (ts : Array TypeId) : Op := .call { callee := .value (.func f), args := args, argTypes := ts }
def i0 : Operand := .const (.int .i64 0)
def i1 : Operand := .const (.int .i64 1)
def none0 : Operand := .const (.slice none 0 0)
def hole : Operand := .const (.agg #[])

/-- The term of set t7 and input t9, into t11. -/
def termS : List Oper :=
  [o 10 (.load 40 (.tmp 3)) 40, o 11 (cl 41 #[.tmp 10, .tmp 9] #[40, 3]) 3, o 12 (.binOp .and 3 (.tmp 7) (.tmp 9) 3) 3, o 13 (cl 42 #[.tmp 12] #[3]) 3, o 10 (.binOp .xor 3 (.tmp 11) (.tmp 13) 3) 3, o 11 (cl 40 #[.tmp 10] #[3]) 3]
def termA : List Oper :=
  [o 10 (.load 40 (.tmp 3)) 40, o 11 (cl 41 #[.tmp 10, .tmp 9] #[40, 3]) 3, o 12 (.binOp .xor 3 (.tmp 9) (.tmp 7) 3) 3, o 13 (cl 41 #[.tmp 10, .tmp 12] #[40, 3]) 3, o 10 (.binOp .xor 3 (.tmp 11) (.tmp 13) 3) 3, o 11 (cl 40 #[.tmp 10] #[3]) 3]

def reg (n : Nat) (l : List Oper) : Code := .region n l.toArray false
def inner (term : List Oper) : Code :=
  .seq (reg 7 [o 10 (.binOp .lss 3 (.tmp 9) (.tmp 4) 3) 4])
  (.seq (.cond (.tmp 10) .skip (.exit 1))
    (reg 8 (term ++ [o 8 (.binOp .add 3 (.tmp 8) (.tmp 11) 3) 3, o 9 (.binOp .add 3 (.tmp 9) i1 3) 3])))
def outer (term : List Oper) : Code :=
  .seq (reg 5 [o 10 (.binOp .lss 3 (.tmp 7) (.tmp 4) 3) 4])
  (.seq (.cond (.tmp 10) .skip (.exit 0))
  (.seq (reg 6 [o 10 (.move (.tmp 7)) 3, o 11 (.alloc 3) 0, st 3 11 10, o 8 (.move i0) 3, o 9 (.move i0) 3])
  (.seq (.block 1 (.loop (inner term)))
  (reg 9 [o 10 (.indexAddr 24 (.tmp 5) (.tmp 7)) 0, st 3 10 8, o 7 (.binOp .add 3 (.tmp 7) i1 3) 3]))))
/-- Refuses unless the field i of the box t1 is an int that fits. -/
def probe (i : Nat) : Code :=
  .seq (reg 11 [o 10 (.fieldAddr 26 (.tmp 1) i) 0, o 10 (.load 3 (.tmp 10)) 3, o 11 (.convert 3 3 (.tmp 10)) 3, o 10 (.binOp .eql 3 (.tmp 10) (.tmp 11) 3) 4])
    (.cond (.tmp 10) .skip (.refuse "no"))
/-- Refuses where more came in than the function has slots: a slot behind them takes a value then, which has not the size of an int. -/
def few : Code := reg 12 [o 14 (.move hole) 0, o 10 (.build 26 #[(0, .tmp 14)]) 26]
def sums (term : List Oper) : Code :=
  .seq (reg 0 [o 1 (.box 26 (.tmp 0)) 0, o 2 (.assign none0) 24])
  (.seq (probe 0) (.seq (probe 1) (.seq few
  (.seq (reg 1 [o 10 (.load 26 (.tmp 1)) 26, o 11 (cl 37 #[.tmp 10] #[26]) 4, o 12 (.unOp .not 4 (.tmp 11)) 4])
  (.seq (.cond (.tmp 12) (.seq (reg 2 [o 2 (.assign none0) 24]) .ret) .skip)
  (.seq (reg 3 [o 10 (.fieldAddr 26 (.tmp 1) 1) 0, o 11 (.load 3 (.tmp 10)) 3, o 12 (.convert 3 40 (.tmp 11)) 40, o 3 (.alloc 40) 0, st 40 3 12])
  (.seq (reg 4 [o 10 (.fieldAddr 26 (.tmp 1) 0) 0, o 11 (.load 3 (.tmp 10)) 3, o 12 (.box 3 (.tmp 11)) 0, o 13 (.box 42 hole) 0, o 10 (.load 3 (.tmp 12)) 3, o 4 (cl 44 #[.tmp 10] #[3]) 3,
    o 5 (.makeSlice 24 (.tmp 4) (.tmp 4)) 24, o 6 (.alloc 24) 0, st 24 6 5, o 11 (.box 48 hole) 0, o 13 (.box 65 hole) 0, o 7 (.move i0) 3])
  (.seq (.block 0 (.loop (outer term)))
  (.seq (reg 10 [o 10 (.load 24 (.tmp 6)) 24, o 2 (.assign (.tmp 10)) 24]) .ret)))))))))
def bodyS : Code := sums termS
def bodyA : Code := sums termA
abbrev body14 : Code := bodyS
abbrev body26 : Code := bodyA
end Go.Proofs.Tq
