/-
  The twin's own body: SpectrumOf, one sum after the other.
-/
import Derived.Test.YtechkghnmgimbaaGoA
import Derived.Test.YtechkghnmgimbaaChecked
namespace Go.Proofs.Tq
open Go.Veiled

def o (d : Nat) (x : Op) (t : TypeId) : Oper := { dst := some d, op := x, type := t, pos := "", after := #[], guard := none }
def st (t : TypeId) (a x : Nat) : Oper := { dst := none, op := .store t (.tmp a) (.tmp x), type := 0, pos := "", after := #[], guard := none }
def cl (f : FuncId) (args : Array Operand) (ts : Array TypeId) : Op := .call { callee := .value (.func f), args := args, argTypes := ts }
def i0 : Operand := .const (.int .i64 0)
def i1 : Operand := .const (.int .i64 1)
def none0 : Operand := .const (.slice none 0 0)
def hole : Operand := .const (.agg #[])

/-- The term of set t21 and input t26, into t33. -/
def termS : List Oper :=
  [o 28 (.load 40 (.tmp 3)) 40, o 29 (cl 41 #[.tmp 28, .tmp 26] #[40, 3]) 3, o 30 (.binOp .and 3 (.tmp 21) (.tmp 26) 3) 3, o 31 (cl 42 #[.tmp 30] #[3]) 3, o 32 (.binOp .xor 3 (.tmp 29) (.tmp 31) 3) 3, o 33 (cl 40 #[.tmp 32] #[3]) 3]
def termA : List Oper :=
  [o 28 (.load 40 (.tmp 3)) 40, o 29 (cl 41 #[.tmp 28, .tmp 26] #[40, 3]) 3, o 30 (.binOp .xor 3 (.tmp 26) (.tmp 21) 3) 3, o 31 (cl 41 #[.tmp 28, .tmp 30] #[40, 3]) 3, o 32 (.binOp .xor 3 (.tmp 29) (.tmp 31) 3) 3, o 33 (cl 40 #[.tmp 32] #[3]) 3]

def reg (n : Nat) (l : List Oper) : Code := .region n l.toArray false
def inner (term : List Oper) : Code :=
  .seq (reg 7 [o 27 (.binOp .lss 3 (.tmp 26) (.tmp 17) 3) 4])
  (.seq (.cond (.tmp 27) .skip (.exit 1))
    (reg 8 (term ++ [o 25 (.binOp .add 3 (.tmp 25) (.tmp 33) 3) 3, o 26 (.binOp .add 3 (.tmp 26) i1 3) 3])))
def outer (term : List Oper) : Code :=
  .seq (reg 5 [o 22 (.binOp .lss 3 (.tmp 21) (.tmp 17) 3) 4])
  (.seq (.cond (.tmp 22) .skip (.exit 0))
  (.seq (reg 6 [o 23 (.move (.tmp 21)) 3, o 24 (.alloc 3) 0, st 3 24 23, o 25 (.move i0) 3, o 26 (.move i0) 3])
  (.seq (.block 1 (.loop (inner term)))
  (reg 9 [o 34 (.indexAddr 24 (.tmp 18) (.tmp 21)) 0, st 3 34 25, o 21 (.binOp .add 3 (.tmp 21) i1 3) 3]))))
/-- Refuses unless the field i of the box t1 is an int that fits. -/
def probe (i : Nat) : Code :=
  .seq (reg 11 [o 13 (.fieldAddr 26 (.tmp 1) i) 0, o 13 (.load 3 (.tmp 13)) 3, o 34 (.convert 3 3 (.tmp 13)) 3, o 13 (.binOp .eql 3 (.tmp 13) (.tmp 34) 3) 4])
    (.cond (.tmp 13) .skip (.refuse "no"))
def sums (term : List Oper) : Code :=
  .seq (reg 0 [o 1 (.box 26 (.tmp 0)) 0, o 2 (.assign none0) 24])
  (.seq (probe 0) (.seq (probe 1)
  (.seq (reg 1 [o 4 (.load 26 (.tmp 1)) 26, o 5 (cl 37 #[.tmp 4] #[26]) 4, o 6 (.unOp .not 4 (.tmp 5)) 4])
  (.seq (.cond (.tmp 6) (.seq (reg 2 [o 2 (.assign none0) 24]) .ret) .skip)
  (.seq (reg 3 [o 7 (.fieldAddr 26 (.tmp 1) 1) 0, o 8 (.load 3 (.tmp 7)) 3, o 9 (.convert 3 40 (.tmp 8)) 40, o 3 (.alloc 40) 0, st 40 3 9])
  (.seq (reg 4 [o 10 (.fieldAddr 26 (.tmp 1) 0) 0, o 11 (.load 3 (.tmp 10)) 3, o 14 (.box 3 (.tmp 11)) 0, o 15 (.box 42 hole) 0, o 16 (.load 3 (.tmp 14)) 3, o 17 (cl 44 #[.tmp 16] #[3]) 3,
    o 18 (.makeSlice 24 (.tmp 17) (.tmp 17)) 24, o 19 (.alloc 24) 0, st 24 19 18, o 12 (.box 48 hole) 0, o 20 (.box 65 hole) 0, o 21 (.move i0) 3])
  (.seq (.block 0 (.loop (outer term)))
  (.seq (reg 10 [o 35 (.load 24 (.tmp 19)) 24, o 2 (.assign (.tmp 35)) 24]) .ret))))))))
def bodyS : Code := sums termS
def bodyA : Code := sums termA
abbrev body14 : Code := bodyS
abbrev body26 : Code := bodyA
end Go.Proofs.Tq
