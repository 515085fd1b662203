/-
  Rows of bytes that a call made itself, and their strings.
-/
import Derived.Test.YtlmhdocfdpbhmaaBase0
import Derived.Test.YtlmhdocfdpbhmaaPlain
import Derived.WalkKit
import Derived.ProofKit
import Derived.OpenShut
import Derived.BigQuiet
import Derived.Deep.QuietTactic
import Derived.IntWalk
import Derived.Lib.Hide
import Derived.Laws.IdiomStrings
import Derived.Below
namespace Go.Proofs.Ytlmhdocfdpbhmaa
open Go.RowKit Plain
set_option linter.unusedVariables false

theorem Try.infoByte : (Try.prog.info? 5).map (fun i => (i.zero, i.size, i.bytes)) = some (some (.int .u8 0), 1, 1) := by kernel_rfl

def bytesV (l : List UInt8) : List Value := l.map (fun b => Value.int .u8 (b.toNat : Int))
def ByteRow (w : World) (B : Nat) (v : Value) (l : List UInt8) : Prop := w.ownsRow B 5 1 v l.length (bytesV l)

theorem bytesV_snoc (l : List UInt8) (c : UInt8) : bytesV (l ++ [c]) = bytesV l ++ [.int .u8 (c.toNat : Int)] := by simp [bytesV]

theorem ByteRow.step {B : Nat} {w wr w1 : World} {v v' : Value} {l : List UInt8} {x : Int} {o : Obj} (c : UInt8) (hx : x = (c.toNat : Int)) (hB : B ≤ wr.heap.size)
    (hown : ByteRow wr B v l) (hb : Below B w wr) (hown' : w1.ownsRow B 5 1 v' (l.length + 1) (bytesV l ++ [.int .u8 x])) (hgrow : (wr.alloc o).grownBy w1 v.ownBlock) :
    ByteRow w1 B v' (l ++ [c]) ∧ Below B w w1 ∧ B ≤ w1.heap.size := by
  refine ⟨?_, (hb.alloc hB o).grown hgrow (by simp; omega) (fun j hj => (World.ownsRow.lt hown j hj).1), ?_⟩
  · unfold ByteRow
    rw [bytesV_snoc, List.length_append, List.length_singleton, ← hx]
    exact hown'
  · have := hgrow.size; simp at this; omega

theorem text_nil (w : World) : (convert 22 9 (.slice none 0 0)).run Try.prog w = .ok (.string ⟨#[]⟩) w := by kernel_rfl

theorem ByteRow.text {w : World} {B : Nat} {v : Value} {l : List UInt8} (h : ByteRow w B v l) : (convert 22 9 v).run Try.prog w = .ok (.string ⟨l.toArray⟩) w := by
  rcases World.ownsRow.lt h |> fun _ => h.2 with ⟨rfl, hn⟩ | ⟨g, cap, cur, rfl, hb, hg, hn, hm, hs, htk⟩
  · have : l = [] := List.eq_nil_of_length_eq_zero hn
    subst this
    exact text_nil w
  · have hcell := World.ownsRow.cells h (g := g) rfl
    refine run_convert_bytes_back w _ _ 5 _ _ l Try.underlying22 Try.underlying5 Try.underlying9 ?_
    intro j hj
    refine hcell j _ ?_
    simp [bytesV, List.getElem?_eq_getElem hj]

/-- One byte is appended to a row of bytes of the call's own: a new box holds the byte, then the row takes it. -/
theorem wp_byteK {ops : Array Oper} {rest : List Oper} {o : Oper} {a : Act} {Q : Exit → Act → World → Prop} (hgd : o.guard = none) (s x : Operand)
    (ho : o.op = .call { callee := .builtin .append, args := #[s, x], argTypes := #[22, 22] })
    (B : Nat) (w wr : World) (v : Value) (l : List UInt8) (c : Int) (ob : Obj) (hown : ByteRow wr B v l) (hb : Below B w wr) (hB : B ≤ wr.heap.size) (hc : 0 ≤ c ∧ c ≤ 255) (hlen : l.length ≤ 100000000)
    (hs : a.eval s = v) (hx : a.eval x = .slice (some ⟨wr.heap.size, 0, none⟩) 1 1) (hob : ob = .cells #[.int .u8 c] 5)
    (h : ∀ v' w1, ByteRow w1 B v' (l ++ [UInt8.ofNat c.toNat]) → Below B w w1 → B ≤ w1.heap.size → (∀ k o, wr.heap[k]? = some o → some k ≠ v.ownBlock → w1.heap[k]? = some o) → wpList Try.prog ops Q rest (a.put o.dst v') w1) :
    wpList Try.prog ops Q (o :: rest) a (wr.alloc ob) := by
  subst hob
  obtain ⟨i0, hi, hz0, hz1, hz2⟩ := info_parts Try.infoByte
  refine wpList_append_own _ hgd s x 22 ho B 5 i0 (.int .u8 0) 1 1 Try.underlying22 hi hz0 hz1 hz2 rfl (by decide) v l.length (bytesV l) hs (World.ownsRow.alloc hown _) ⟨wr.heap.size, 0, none⟩ 1 1 [.int .u8 c] hx rfl ?_ ?_ ?_ ?_ ?_ ?_
  · intro j u hj
    match j, hj with
    | 0, hj =>
      simp at hj
      subst hj
      exact World.cell?_alloc_mark wr _ _ _ 0
    | j + 1, hj => simp at hj
  · intro u hu; simp at hu; subst hu; rfl
  · unfold maxLen; omega
  · omega
  · simp; omega
  · intro v' w1 h1 h2 _
    have hcc : c = ((UInt8.ofNat c.toNat).toNat : Int) := by rw [u8_of _ (by omega)]; omega
    obtain ⟨g1, g2, g3⟩ := ByteRow.step (UInt8.ofNat c.toNat) hcc hB hown hb h1 h2
    refine h v' w1 g1 g2 g3 fun k o hk hne => ?_
    have hlt : k < wr.heap.size := (Array.getElem?_eq_some_iff.1 hk).1
    rw [h2.block k (by simp; omega) hne, Below.heap_alloc wr _ k hlt]
    exact hk

theorem wp_byte {ops : Array Oper} {rest : List Oper} {o : Oper} {a : Act} {Q : Exit → Act → World → Prop} (hgd : o.guard = none) (s x : Operand)
    (ho : o.op = .call { callee := .builtin .append, args := #[s, x], argTypes := #[22, 22] })
    (B : Nat) (w wr : World) (v : Value) (l : List UInt8) (c : Int) (ob : Obj) (hown : ByteRow wr B v l) (hb : Below B w wr) (hB : B ≤ wr.heap.size) (hc : 0 ≤ c ∧ c ≤ 255) (hlen : l.length ≤ 100000000)
    (hs : a.eval s = v) (hx : a.eval x = .slice (some ⟨wr.heap.size, 0, none⟩) 1 1) (hob : ob = .cells #[.int .u8 c] 5)
    (h : ∀ v' w1, ByteRow w1 B v' (l ++ [UInt8.ofNat c.toNat]) → Below B w w1 → B ≤ w1.heap.size → wpList Try.prog ops Q rest (a.put o.dst v') w1) :
    wpList Try.prog ops Q (o :: rest) a (wr.alloc ob) :=
  wp_byteK hgd s x ho B w wr v l c ob hown hb hB hc hlen hs hx hob fun v' w1 g1 g2 g3 _ => h v' w1 g1 g2 g3

theorem ByteRow.made {w : World} {B n : Nat} {v : Value} (h : w.ownsRow B 5 1 v n (madeCells (Value.int .u8 0).cells (n * 1)).toList) : ByteRow w B v (List.replicate n 0) := by
  have e : (madeCells (Value.int .u8 0).cells (n * 1)).toList = bytesV (List.replicate n 0) := by
    show (madeCells #[Value.int .u8 0] (n * 1)).toList = _
    rw [toList_madeCells_one, Nat.mul_one]
    simp [bytesV]
  unfold ByteRow
  rw [← e, List.length_replicate]
  exact h

theorem ByteRow.cell {w : World} {B g n cap : Nat} {l : List UInt8} (h : ByteRow w B (.slice (some ⟨g, 0, none⟩) n cap) l) (hn : l.length = n) (j : Nat) (hj : j < n) :
    w.cell? ⟨g, j, none⟩ = some (.int .u8 ((l.getD j 0).toNat : Int)) := by
  unfold ByteRow at h
  rw [hn] at h
  rw [World.ownsRow.cellAt h j (by omega)]
  have hj' : j < l.length := by omega
  simp [bytesV, hj']

theorem ByteRow.free {w : World} {B g n cap : Nat} {l : List UInt8} (h : ByteRow w B (.slice (some ⟨g, 0, none⟩) n cap) l) (hn : l.length = n) (j : Nat) : w.frozen? ⟨g, j, none⟩ = false := by
  unfold ByteRow at h
  rw [hn] at h
  exact World.ownsRow.frozenAt h j

theorem ByteRow.store {w : World} {B g n cap : Nat} {l : List UInt8} (h : ByteRow w B (.slice (some ⟨g, 0, none⟩) n cap) l) (hn : l.length = n) (j : Nat) (c : UInt8) (x : Int) (hx : x = (c.toNat : Int)) :
    ByteRow (w.setCell ⟨g, j, none⟩ (.int .u8 x)) B (.slice (some ⟨g, 0, none⟩) n cap) (l.set j c) ∧ B ≤ g := by
  unfold ByteRow at h ⊢
  rw [hn] at h
  have h2 := (World.ownsRow.stored h j (.int .u8 x)).1
  rw [List.length_set, hn]
  have e : bytesV (l.set j c) = (bytesV l).set j (.int .u8 x) := by simp [bytesV, List.map_set, hx]
  rw [e]
  exact ⟨h2, (World.ownsRow.lt h g rfl).1⟩

theorem one_text (w : World) (c : Int) (hc : 0 ≤ c ∧ c ≤ 255) :
    (convert 22 9 (.slice (some ⟨w.heap.size, 0, none⟩) 1 1)).run Try.prog (w.alloc (.cells #[.int .u8 c] 5)) = .ok (.string ⟨#[UInt8.ofNat c.toNat]⟩) (w.alloc (.cells #[.int .u8 c] 5)) := by
  refine run_convert_bytes_back (P := Try.prog) _ _ _ 5 _ _ [UInt8.ofNat c.toNat] Try.underlying22 Try.underlying5 Try.underlying9 ?_
  intro j hj
  have : j = 0 := by simpa using hj
  subst this
  have e : c = ((UInt8.ofNat c.toNat).toNat : Int) := by rw [u8_of _ (by omega)]; omega
  rw [show (⟨w.heap.size, 0, none⟩ : Addr).add 0 = ⟨w.heap.size, 0, none⟩ from rfl, World.cell?_alloc_mark]
  simp only [List.getElem_cons_zero]
  rw [← e]
  rfl

theorem join_text (x y : List UInt8) (h : x.length + y.length ≤ 1000000000) (w : World) : (Op.stringOp .add ⟨x.toArray⟩ ⟨y.toArray⟩).run Try.prog w = .ok (.string ⟨(x ++ y).toArray⟩) w := by
  rw [run_string_add_sum]
  · rw [ByteArray.mk_append_mk]
  · show x.toArray.size + y.toArray.size ≤ _
    simp only [List.size_toArray]
    omega

theorem bytesV_append (l m : List UInt8) : bytesV (l ++ m) = bytesV l ++ bytesV m := by simp [bytesV]

theorem ByteRow.drew {w : World} {B : Nat} {v : Value} {l : List UInt8} (h : ByteRow w B v l) : ByteRow w.drew B v l := h

/-- Two bytes are appended to a row of bytes of the call's own: as a step of a region that draws. -/
theorem step_two {ops : Array Oper} {o : Oper} {a : Act} {K : Act → World → Prop} {Q : Exit → Act → World → Prop} {E : Prop} (hgd : o.guard = none) (s x : Operand)
    (ho : o.op = .call { callee := .builtin .append, args := #[s, x], argTypes := #[22, 22] })
    (B : Nat) (w wr : World) (v : Value) (l : List UInt8) (c d : Int) (ob : Obj) (hown : ByteRow wr B v l) (hb : Below B w wr) (hB : B ≤ wr.heap.size) (hlen : l.length ≤ 100000000)
    (hc : 0 ≤ c ∧ c ≤ 255) (hd : 0 ≤ d ∧ d ≤ 255)
    (hs : a.eval s = v) (hx : a.eval x = .slice (some ⟨wr.heap.size, 0, none⟩) 2 2) (hob : ob = .cells #[.int .u8 c, .int .u8 d] 5)
    (h : ∀ v' w1, ByteRow w1 B v' (l ++ [UInt8.ofNat c.toNat, UInt8.ofNat d.toNat]) → Below B w w1 → B ≤ w1.heap.size → K (a.put o.dst v') w1) :
    if Region.wanted o (yielded ops a.tmps) = true then Oper.wp Try.prog o a (wr.alloc ob) K Q else E := by
  have hw : Region.wanted o (yielded ops a.tmps) = true := by simp [Region.wanted, hgd]
  rw [if_pos hw]
  subst hob
  obtain ⟨i0, hi, hz0, hz1, hz2⟩ := info_parts Try.infoByte
  refine wp_append_own _ s x 22 ho B 5 i0 (.int .u8 0) 1 1 Try.underlying22 hi hz0 hz1 hz2 rfl (by decide) v l.length (bytesV l) hs (World.ownsRow.alloc hown _) ⟨wr.heap.size, 0, none⟩ 2 2 [.int .u8 c, .int .u8 d] hx rfl ?_ ?_ ?_ ?_ ?_ ?_
  · intro j u hj
    match j, hj with
    | 0, hj =>
      simp at hj
      subst hj
      exact World.cell?_alloc_mark wr _ _ _ 0
    | 1, hj =>
      simp at hj
      subst hj
      exact World.cell?_alloc_mark wr _ _ _ 1
    | j + 2, hj => simp at hj
  · intro u hu
    simp at hu
    rcases hu with rfl | rfl <;> rfl
  · unfold maxLen; omega
  · omega
  · simp; omega
  · intro v' w1 h1 h2 _
    refine h v' w1 ?_ ((hb.alloc hB _).grown h2 (by simp; omega) (fun j hj => (World.ownsRow.lt hown j hj).1)) (by have := h2.size; simp at this; omega)
    unfold ByteRow
    rw [bytesV_append, List.length_append]
    have e1 : c = ((UInt8.ofNat c.toNat).toNat : Int) := by rw [u8_of _ (by omega)]; omega
    have e2 : d = ((UInt8.ofNat d.toNat).toNat : Int) := by rw [u8_of _ (by omega)]; omega
    have e3 : bytesV [UInt8.ofNat c.toNat, UInt8.ofNat d.toNat] = [.int .u8 c, .int .u8 d] := by
      unfold bytesV
      simp only [List.map_cons, List.map_nil]
      rw [← e1, ← e2]
    rw [e3]
    exact h1

end Go.Proofs.Ytlmhdocfdpbhmaa
