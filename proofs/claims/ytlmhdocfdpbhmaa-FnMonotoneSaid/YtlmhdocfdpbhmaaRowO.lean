/-
  A row of ints that began as an empty one of no capacity ('out := []int{}').
-/
import Derived.Test.YtlmhdocfdpbhmaaRowB
import Derived.Lib.FrozenHead
namespace Go.Proofs.Ytlmhdocfdpbhmaa
open Go.RowKit Plain
set_option linter.unusedVariables false

def OutE (w : World) (b0 B : Nat) (v : Value) (l : List Int) : Prop := (v = .slice (some ⟨b0, 0, none⟩) 0 0 ∧ l = []) ∨ IntRow w B v l
theorem wp_intE0 {ops : Array Oper} {rest : List Oper} {o : Oper} {a : Act} {Q : Exit → Act → World → Prop} (hgd : o.guard = none) (s x : Operand)
    (ho : o.op = .call { callee := .builtin .append, args := #[s, x], argTypes := #[36, 36] })
    (b0 B : Nat) (w wr : World) (c : Int) (hb : Below B w wr) (hB : B ≤ wr.heap.size)
    (hs : a.eval s = .slice (some ⟨b0, 0, none⟩) 0 0) (hx : a.eval x = .slice (some ⟨wr.heap.size, 0, none⟩) 1 1)
    (h : ∀ v' w1, IntRow w1 B v' [c] → Below B w w1 → wpList Try.prog ops Q rest (a.put o.dst v') w1) :
    wpList Try.prog ops Q (o :: rest) a (wr.alloc (.cells #[.int .i64 c] 3)) := by
  obtain ⟨i0, hi, hz0, hz1, hz2⟩ := info_parts Try.infoInt
  have hnews : ∀ j u, [Value.int .i64 c][j]? = some u → (wr.alloc (.cells #[.int .i64 c] 3)).cell? ((⟨wr.heap.size, 0, none⟩ : Addr).add j) = some u := by
    intro j u hj
    match j, hj with
    | 0, hj => simp at hj; subst hj; exact World.cell?_alloc_mark wr _ _ _ 0
    | j + 1, hj => simp at hj
  have hfit : Builtin.nextslicecap (0 + 1) 0 * i0.bytes ≤ 281474976710656 := by rw [nextslicecap_zero (by decide), hz2]; decide
  have hr := run_append_grow (P := Try.prog) (wr.alloc (.cells #[.int .i64 c] 3)) 36 o.type 3 i0 (.int .i64 0) Try.underlying36 hi hz0
    ⟨b0, 0, none⟩ 0 0 [] (by simp) (fun j u h => by simp at h) ⟨wr.heap.size, 0, none⟩ 1 1 [.int .i64 c] (by rw [hz1]; rfl) hnews (by decide) (by decide) hfit
  have hge := grownCap_ge (wr.alloc (.cells #[.int .i64 c] 3)) (0 + 1) 0 3
  have hcm := grownCap_le_maxLen (wr.alloc (.cells #[.int .i64 c] 3)) (0 + 1) 0 3 (by unfold maxLen; decide)
  generalize grownCap (wr.alloc (.cells #[.int .i64 c] 3)) (0 + 1) 0 3 = cp at hr hge hcm
  refine wpList_plain hgd fun K hK => ?_
  unfold Oper.wp execOp
  simp only [ho, resolve, invoke, builtin, Sem.run_bind, Sem.run_pure, Result.andThen_ok, List.map_toArray, List.map_cons, List.map_nil, hs, hx, hr]
  refine hK _ _ (h _ _ ⟨rfl, .inr ⟨_, cp, _, rfl, ?_, heap_alloc_new (World.drew _) _, hge, hcm, ?_, ?_⟩⟩ ?_)
  · simp; omega
  · have e : (Value.int .i64 0).cells.size = 1 := rfl
    simp only [Array.size_append, List.size_toArray, size_zeroCells, e, List.length_nil, List.length_cons]
    omega
  · simp [intsV]
  · exact bA (by simp; omega) (bD (bA hB hb))
theorem wp_intE {ops : Array Oper} {rest : List Oper} {o : Oper} {a : Act} {Q : Exit → Act → World → Prop} (hgd : o.guard = none) (s x : Operand)
    (ho : o.op = .call { callee := .builtin .append, args := #[s, x], argTypes := #[36, 36] })
    (b0 B : Nat) (w wr : World) (v : Value) (l : List Int) (c : Int) (ob : Obj) (hown : OutE wr b0 B v l) (hb : Below B w wr) (hB : B ≤ wr.heap.size) (hlen : l.length ≤ 1000000)
    (hs : a.eval s = v) (hx : a.eval x = .slice (some ⟨wr.heap.size, 0, none⟩) 1 1) (hob : ob = .cells #[.int .i64 c] 3)
    (h : ∀ v' w1, IntRow w1 B v' (l ++ [c]) → Below B w w1 → wpList Try.prog ops Q rest (a.put o.dst v') w1) :
    wpList Try.prog ops Q (o :: rest) a (wr.alloc ob) := by
  rcases hown with ⟨rfl, rfl⟩ | hown
  · subst hob
    exact wp_intE0 hgd s x ho b0 B w wr c hb hB hs hx h
  · exact wp_int hgd s x ho B w wr v l c ob hown hb hB (by omega) hs hx hob fun v' w1 h1 h2 _ => h v' w1 h1 h2

theorem OutE.below {w w' : World} {b0 B : Nat} {v : Value} {l : List Int} (h : OutE w b0 B v l) (hb : Below w.heap.size w w') : OutE w' b0 B v l := by
  rcases h with ⟨h1, h2⟩ | h
  · exact .inl ⟨h1, h2⟩
  · exact .inr (h.below hb)
theorem OutE.drewN {w : World} {b0 B : Nat} {v : Value} {l : List Int} (h : OutE w b0 B v l) (m : Nat) : OutE (w.drewN m) b0 B v l := h.below ⟨rfl, rfl, rfl, Nat.le_refl _, fun _ _ => rfl⟩
end Go.Proofs.Ytlmhdocfdpbhmaa
