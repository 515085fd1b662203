/-
  What the draws of chapter 1 answer: some number, some text, whatever the code.
-/
import Derived.Test.YtbgjiblfnljigaaCur
namespace Go.Proofs.Ytbgjiblfnljigaa
open Go.RowKit Plain
set_option linter.unusedVariables false

theorem CurAt.lt {w : World} {b : Nat} {av : Value} {len : Nat} (h : CurAt w b av len) : b < w.heap.size := by
  obtain ⟨i, v, _, hh⟩ := h
  exact (Array.getElem?_eq_some_iff.1 hh).1
theorem CurAt.alloc {w : World} {b : Nat} {av : Value} {len : Nat} (h : CurAt w b av len) (o : Obj) : CurAt (w.alloc o) b av len := by
  have hlt := h.lt
  obtain ⟨i, v, hi, hh⟩ := h
  exact ⟨i, v, hi, (heap_alloc_old w o hlt).trans hh⟩

theorem intsNew (w : World) (b : Nat) (hb : b < w.heap.size) (zs : List Int) (T : TypeId) (h0 : 0 < zs.length) (h1 : zs.length ≤ 1000) :
    IntsAt (w.alloc (.cells (zs.map (Value.int .i64)).toArray T)) b (.slice (some ⟨w.heap.size, 0, none⟩) zs.length zs.length) zs := by
  refine ⟨w.heap.size, zs.length, rfl, by omega, h0, h1, fun j hj => ?_⟩
  rw [World.cell?_alloc_mark]
  simp [hj, List.getD]

def In64 (x : Int) : Prop := -9223372036854775808 ≤ x ∧ x ≤ 9223372036854775807

def numList : List Int := [-1, 0, 127, 128, 255, 256, 16383, 16384, 65535, 65536, 562949953421311, 562949953421312, 999999999, 1000000000, -999999999, 9223372036854775807, -9223372036854775808]
theorem numList_in : ∀ j, j < numList.length → In64 (numList.getD j 0) := by
  have h : ∀ i : Fin 17, decide (-9223372036854775808 ≤ numList.getD i.val 0) = true ∧ decide (numList.getD i.val 0 ≤ 9223372036854775807) = true := by decide +kernel
  intro j hj
  have h1 := h ⟨j, hj⟩
  exact ⟨of_decide_eq_true h1.1, of_decide_eq_true h1.2⟩

theorem numMul {x y : Int} (hx : 0 ≤ x ∧ x < 1000000000) (hy : 0 ≤ y ∧ y < 1000000000) : 0 ≤ x * y ∧ x * y ≤ 1000000000000000000 := by
  refine ⟨Int.mul_nonneg hx.1 hy.1, ?_⟩
  have := Int.mul_le_mul (show x ≤ 1000000000 by omega) (show y ≤ 1000000000 by omega) hy.1 (by omega)
  omega

/-- What a draw of a text answers: some text of at most so many bytes, the cursor moved on. -/
def TextOut (most : Int) (b : Nat) (av : Value) (len : Nat) (w : World) (e : Ending) (w' : World) : Prop :=
  ∃ l : List UInt8, e = .returned (.string ⟨l.toArray⟩) ∧ (l.length : Int) ≤ most ∧ CurAt w' b av len ∧ w.grownBy w' (some b)

theorem ByteRow.passed {w w' : World} {B b : Nat} {v : Value} {l : List UInt8} (h : ByteRow w B v l) (hg : w.grownBy w' (some b)) (hb : b < B) : ByteRow w' B v l := by
  refine World.ownsRow.kept h hg ?_
  cases hv : v.ownBlock with
  | none => exact .inl rfl
  | some g =>
    refine .inr ?_
    have := (World.ownsRow.lt h g hv).1
    simp
    omega

theorem grownByte {w wr w1 : World} {b : Nat} (hg : w.grownBy wr (some b)) (hb : Below w.heap.size wr w1) : w.grownBy w1 (some b) :=
  ⟨hb.os.trans hg.os, hb.tape.trans hg.tape, hb.output.trans hg.output, Nat.le_trans hg.size hb.size, fun k hk hne => (hb.block k hk).trans (hg.block k hk hne)⟩
theorem CurAt.below {w wr : World} {b B : Nat} {av : Value} {len : Nat} (h : CurAt w b av len) (hb : Below B w wr) (hB : b < B) : CurAt wr b av len := by
  obtain ⟨i, v, hi, hh⟩ := h
  exact ⟨i, v, hi, (hb.block b hB).trans hh⟩
end Go.Proofs.Ytbgjiblfnljigaa
