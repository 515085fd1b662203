/-
  Rows of bytes that a call made itself, and their strings.
-/
import Derived.Test.YtbkkohkigpkddaaBase0
import Derived.Test.YtbkkohkigpkddaaPlain
import Derived.WalkKit
import Derived.ProofKit
import Derived.OpenShut
import Derived.BigQuiet
import Derived.Deep.QuietTactic
import Derived.IntWalk
import Derived.Lib.Hide
import Derived.Laws.IdiomStrings
import Derived.Below
namespace Go.Proofs.Ytbkkohkigpkddaa
open Go.RowKit Plain
set_option linter.unusedVariables false

theorem Try.infoByte : (Try.prog.info? 5).map (fun i => (i.zero, i.size, i.bytes)) = some (some (.int .u8 0), 1, 1) := by kernel_rfl

def bytesV (l : List UInt8) : List Value := l.map (fun b => Value.int .u8 (b.toNat : Int))
def ByteRow (w : World) (B : Nat) (v : Value) (l : List UInt8) : Prop := w.ownsRow B 5 1 v l.length (bytesV l)

theorem bytesV_snoc (l : List UInt8) (c : UInt8) : bytesV (l ++ [c]) = bytesV l ++ [.int .u8 (c.toNat : Int)] := by simp [bytesV]

theorem ByteRow.step {B : Nat} {w wr w1 : World} {v v' : Value} {l : List UInt8} {x : Int} {o : Obj} (c : UInt8) (hx : x = (c.toNat : Int)) (hB : B ≤ wr.heap.size)
    (hown : ByteRow wr B v l) (hb : Below B w wr) (hown' : w1.ownsRow B 5 1 v' (l.length + 1) (bytesV l ++ [.int .u8 x])) (hgrow : (wr.alloc o).grownBy w1 v.ownBlock) :
    ByteRow w1 B v' (l ++ [c]) ∧ Below B w w1 ∧ B ≤ w1.heap.size := by
  refine ⟨?_, (hb.alloc hB o).grown hgrow (by simp; omega) (fun j hj => (World.ownsRow.lt hown j hj).1), ?_⟩
  · unfold ByteRow
    rw [bytesV_snoc, List.length_append, List.length_singleton, ← hx]
    exact hown'
  · have := hgrow.size; simp at this; omega

theorem ByteRow.made {w : World} {B n : Nat} {v : Value} (h : w.ownsRow B 5 1 v n (madeCells (Value.int .u8 0).cells (n * 1)).toList) : ByteRow w B v (List.replicate n 0) := by
  have e : (madeCells (Value.int .u8 0).cells (n * 1)).toList = bytesV (List.replicate n 0) := by
    show (madeCells #[Value.int .u8 0] (n * 1)).toList = _
    rw [toList_madeCells_one, Nat.mul_one]
    simp [bytesV]
  unfold ByteRow
  rw [← e, List.length_replicate]
  exact h

theorem ByteRow.cell {w : World} {B g n cap : Nat} {l : List UInt8} (h : ByteRow w B (.slice (some ⟨g, 0, none⟩) n cap) l) (hn : l.length = n) (j : Nat) (hj : j < n) :
    w.cell? ⟨g, j, none⟩ = some (.int .u8 ((l.getD j 0).toNat : Int)) := by
  unfold ByteRow at h
  rw [hn] at h
  rw [World.ownsRow.cellAt h j (by omega)]
  have hj' : j < l.length := by omega
  simp [bytesV, hj']

theorem ByteRow.free {w : World} {B g n cap : Nat} {l : List UInt8} (h : ByteRow w B (.slice (some ⟨g, 0, none⟩) n cap) l) (hn : l.length = n) (j : Nat) : w.frozen? ⟨g, j, none⟩ = false := by
  unfold ByteRow at h
  rw [hn] at h
  exact World.ownsRow.frozenAt h j

theorem ByteRow.store {w : World} {B g n cap : Nat} {l : List UInt8} (h : ByteRow w B (.slice (some ⟨g, 0, none⟩) n cap) l) (hn : l.length = n) (j : Nat) (c : UInt8) (x : Int) (hx : x = (c.toNat : Int)) :
    ByteRow (w.setCell ⟨g, j, none⟩ (.int .u8 x)) B (.slice (some ⟨g, 0, none⟩) n cap) (l.set j c) ∧ B ≤ g := by
  unfold ByteRow at h ⊢
  rw [hn] at h
  have h2 := (World.ownsRow.stored h j (.int .u8 x)).1
  rw [List.length_set, hn]
  have e : bytesV (l.set j c) = (bytesV l).set j (.int .u8 x) := by simp [bytesV, List.map_set, hx]
  rw [e]
  exact ⟨h2, (World.ownsRow.lt h g rfl).1⟩

theorem join_text (x y : List UInt8) (h : x.length + y.length ≤ 1000000000) (w : World) : (Op.stringOp .add ⟨x.toArray⟩ ⟨y.toArray⟩).run Try.prog w = .ok (.string ⟨(x ++ y).toArray⟩) w := by
  rw [run_string_add_sum]
  · rw [ByteArray.mk_append_mk]
  · show x.toArray.size + y.toArray.size ≤ _
    simp only [List.size_toArray]
    omega

theorem bytesV_append (l m : List UInt8) : bytesV (l ++ m) = bytesV l ++ bytesV m := by simp [bytesV]

theorem ByteRow.drew {w : World} {B : Nat} {v : Value} {l : List UInt8} (h : ByteRow w B v l) : ByteRow w.drew B v l := h

end Go.Proofs.Ytbkkohkigpkddaa
