/-
  Chapter 12, in company: what SpectrumOf does ahead of the goroutines: IsTable.
  Memory that a call makes, block by block.
  Chapter 12, in company: memory made ahead of the goroutines; IsTable.
  Chapter 12, in company: SpectrumOf up to the head of the loop that starts the workers.
-/
import Derived.Test.YtechkghnmgimbaaWkA
import Derived.Test.YtechkghnmgimbaaTabC
import Derived.Conc.Beside
import Derived.Conc.CompanyWords
import Derived.Conc.WgGenN3
import Derived.Laws.MakeOwn
import Derived.RowKit
import Derived.Test.YtechkghnmgimbaaWkB
import Derived.Conc.Starve
import Derived.Test.YtechkghnmgimbaaWkI

namespace Go.Proofs.Ytechkghnmgimbaa
open Go.Conc Go.RowKit Plain Go.Veiled
set_option linter.unusedVariables false
set_option linter.unusedSimpArgs false
set_option linter.unusedSectionVars false

theorem callsC_more {P : Program} {main : Bool} {R : World → World → Prop} {D : World → World → Array Event → Prop} {f : FuncId} {args : Array Value} {k k' : Nat} {w : World} {Post : Value → World → Prop} (h : CallsC P main R D f args k w Post) (hk : k ≤ k') : CallsC P main R D f args k' w Post := by
  obtain ⟨fn, c, h1, h2, h3, h4⟩ := h
  exact ⟨fn, c, h1, h2, h3, wpC_more h4 hk⟩
theorem six_max {p : Nat → Nat → Prop} (hm : ∀ m k k', p m k → k ≤ k' → p m k') (h : ∀ m, m ≤ 5 → ∃ k, p m k) : ∃ k, ∀ m, m ≤ 5 → p m k := by
  obtain ⟨k0, h0⟩ := h 0 (by decide)
  obtain ⟨k1, h1⟩ := h 1 (by decide)
  obtain ⟨k2, h2⟩ := h 2 (by decide)
  obtain ⟨k3, h3⟩ := h 3 (by decide)
  obtain ⟨k4, h4⟩ := h 4 (by decide)
  obtain ⟨k5, h5⟩ := h 5 (by decide)
  refine ⟨k0 + k1 + k2 + k3 + k4 + k5, fun m hm' => ?_⟩
  rcases cases5 m hm' with rfl | rfl | rfl | rfl | rfl | rfl
  · exact hm _ _ _ h0 (by omega)
  · exact hm _ _ _ h1 (by omega)
  · exact hm _ _ _ h2 (by omega)
  · exact hm _ _ _ h3 (by omega)
  · exact hm _ _ _ h4 (by omega)
  · exact hm _ _ _ h5 (by omega)

set_option maxRecDepth 100000 in
theorem Wk.full : ∃ n, ∀ (m : Nat) (hm : m ≤ 5) (main : Bool) (R : World → World → Prop) (D : World → World → Array Event → Prop) (T : Terms R D) (w : World), CallsC Try.prog main R D 65 #[.int .i64 m] n w fun v w' => v = .int .u64 (fullN m : Int) ∧ Since R w w' := by
  obtain ⟨n1, h1⟩ := Wk.count
  co_apply Exists.intro
  intro m hm main R D T w
  have h1 := fun w => h1 main R D T m hm w
  have hfin : (IntKind.u64.wrap (IntKind.u64.wrap (2 ^ min (2 ^ m) 64) - 1)) = (fullN m : Int) := by
    rcases cases5 m hm with rfl | rfl | rfl | rfl | rfl | rfl <;> decide +kernel
  generalize 2 ^ m = N at h1 hfin
  co_apply callsC_of_wpC Try.func65 (by rfl) rfl
  have hF : Since R w w := .refl w
  simp only [Try.ntmps65, List.size_toArray, List.length_cons, List.length_nil, Nat.reduceAdd, Nat.reduceSub, Array.replicate_succ, Array.replicate_zero, List.push_toArray, List.append_toArray, List.nil_append, List.cons_append]
  co_go T (Since.rely T) hF (co_quiet T)
  co_apply opsC_callv T rfl (by rfl) rfl (by simp [Act.eval]) (vs := #[.int .i64 m]) (h1 _)
  rintro v w' ⟨rfl, hS⟩
  replace hF := since_trans T hF hS
  clear hS
  try walk_nrm
  co_go T (Since.rely T) hF (co_quiet T)
  exact ⟨rfl, _, resultsC_tmp (by rfl) _, by show Value.int .u64 _ = _; first | rfl | exact val_int hfin, hF⟩

set_option maxRecDepth 100000 in
theorem Wk.fits : ∃ n, ∀ (m : Nat) (hm : m ≤ 5) (x : Nat) (main : Bool) (R : World → World → Prop) (D : World → World → Array Event → Prop) (T : Terms R D) (w : World), CallsC Try.prog main R D 54 #[.int .u64 x, .int .i64 m] n w fun v w' => v = .bool (decide (x ≤ fullN m)) ∧ Since R w w' := by
  obtain ⟨n1, h1⟩ := Wk.full
  co_apply Exists.intro
  intro m hm x main R D T w
  have h1 := fun w => h1 m hm main R D T w
  co_apply callsC_of_wpC Try.func54 (by rfl) rfl
  have hF : Since R w w := .refl w
  simp only [Try.ntmps54, List.size_toArray, List.length_cons, List.length_nil, Nat.reduceAdd, Nat.reduceSub, Array.replicate_succ, Array.replicate_zero, List.push_toArray, List.append_toArray, List.nil_append, List.cons_append]
  co_go T (Since.rely T) hF (co_quiet T)
  co_apply opsC_callv T rfl (by rfl) rfl (by simp [Act.eval]) (vs := #[.int .i64 m]) (h1 _)
  rintro v w' ⟨rfl, hS⟩
  replace hF := since_trans T hF hS
  clear hS
  try walk_nrm
  co_go T (Since.rely T) hF (co_quiet T)
  exact ⟨rfl, _, resultsC_tmp (by rfl) _, by simp, hF⟩

set_option maxRecDepth 100000 in
theorem Wk.bits_no : ∃ n, ∀ (m : Int) (hm : m < 0) (main : Bool) (R : World → World → Prop) (D : World → World → Array Event → Prop) (T : Terms R D) (w : World), CallsC Try.prog main R D 53 #[.int .i64 m] n w fun v w' => v = .bool false ∧ Since R w w' := by
  co_apply Exists.intro
  intro m hm main R D T w
  have hm' : ¬ 0 ≤ m := by omega
  co_apply callsC_of_wpC Try.func53 (by rfl) rfl
  have hF : Since R w w := .refl w
  simp only [Try.ntmps53, List.size_toArray, List.length_cons, List.length_nil, Nat.reduceAdd, Nat.reduceSub, Array.replicate_succ, Array.replicate_zero, List.push_toArray, List.append_toArray, List.nil_append, List.cons_append]
  co_stmt T (Since.rely T) hF (co_quiet T)
  co_apply wpC_seq T
  co_reg T
  co_op (Since.rely T) hF (co_quiet T)
  co_op (Since.rely T) hF (co_quiet T)
  co_op (Since.rely T) hF (co_quiet T)
  co_apply opsC_unwanted T rfl (by rfl)
  try walk_nrm
  co_apply opsC_unwanted T rfl (by rfl)
  try walk_nrm
  co_go T (Since.rely T) hF (co_quiet T)
  exact ⟨rfl, _, resultsC_tmp (by rfl) _, rfl, hF⟩

set_option maxRecDepth 100000 in
theorem Wk.bits_ge : ∃ n, ∀ (m : Int) (hm : 0 ≤ m) (main : Bool) (R : World → World → Prop) (D : World → World → Array Event → Prop) (T : Terms R D) (w : World), CallsC Try.prog main R D 53 #[.int .i64 m] n w fun v w' => v = .bool (decide (m ≤ 5)) ∧ Since R w w' := by
  co_apply Exists.intro
  intro m hm main R D T w
  co_apply callsC_of_wpC Try.func53 (by rfl) rfl
  have hF : Since R w w := .refl w
  simp only [Try.ntmps53, List.size_toArray, List.length_cons, List.length_nil, Nat.reduceAdd, Nat.reduceSub, Array.replicate_succ, Array.replicate_zero, List.push_toArray, List.append_toArray, List.nil_append, List.cons_append]
  co_go T (Since.rely T) hF (co_quiet T)
  exact ⟨rfl, _, resultsC_tmp (by rfl) _, by simp, hF⟩

set_option maxRecDepth 100000 in
theorem Wk.bits : ∃ n, ∀ (m : Int) (_ : True) (main : Bool) (R : World → World → Prop) (D : World → World → Array Event → Prop) (T : Terms R D) (w : World), CallsC Try.prog main R D 53 #[.int .i64 m] n w fun v w' => v = .bool (decide (0 ≤ m ∧ m ≤ 5)) ∧ Since R w w' := by
  obtain ⟨n1, h1⟩ := Wk.bits_no
  obtain ⟨n2, h2⟩ := Wk.bits_ge
  refine ⟨n1 + n2, fun m _ main R D T w => ?_⟩
  by_cases h : 0 ≤ m
  · rw [show decide (0 ≤ m ∧ m ≤ 5) = decide (m ≤ 5) from by simp [h]]
    exact callsC_more (h2 m h main R D T w) (by omega)
  · rw [show decide (0 ≤ m ∧ m ≤ 5) = false from by simp [h]]
    exact callsC_more (h1 m (by omega) main R D T w) (by omega)

end Go.Proofs.Ytechkghnmgimbaa

namespace Go.Proofs.Ytechkghnmgimbaa
open Go.Conc Go.ConcN Go.RowKit Go.Conc.Lib Go.ConcR.Gen Go.ConcN.Gen
set_option linter.unusedVariables false
set_option linter.unusedSimpArgs false
set_option linter.unusedSectionVars false

/-- W, with the blocks bl made behind it. -/
structure PR (W : World) (bl : List Obj) (w : World) : Prop where
  os : w.os = W.os
  tape : w.tape = W.tape
  output : w.output = W.output
  size : w.heap.size = W.heap.size + bl.length
  keep : ∀ b, b < W.heap.size → w.heap[b]? = W.heap[b]?
  blk : ∀ i o, bl[i]? = some o → w.heap[W.heap.size + i]? = some o
section
variable {W : World} {bl : List Obj} {w w₁ : World} {N Bd : Nat}
theorem PR.refl (W : World) : PR W [] W := ⟨rfl, rfl, rfl, rfl, fun _ _ => rfl, fun i o h => by simp at h⟩
theorem PR.rely (h : PR W bl w) (r : AtRel w w₁) : PR W bl w₁ := by
  obtain ⟨d, rfl⟩ := r
  exact ⟨h.os, h.tape, h.output, h.size, h.keep, h.blk⟩
theorem PR.alloc (h : PR W bl w) (o : Obj) : PR W (bl ++ [o]) (w.alloc o) := by
  refine ⟨h.os, h.tape, h.output, by simp [h.size]; omega, fun b hb => (Below.heap_alloc _ _ _ (by rw [h.size]; omega)).trans (h.keep b hb), fun i o' hi => ?_⟩
  by_cases hlt : i < bl.length
  · rw [List.getElem?_append_left hlt] at hi
    exact (Below.heap_alloc _ _ _ (by rw [h.size]; omega)).trans (h.blk i o' hi)
  · rw [List.getElem?_append_right (by omega)] at hi
    have h0 : i = bl.length := by
      rcases Nat.lt_or_ge (i - bl.length) 1 with h1 | h1
      · omega
      · rw [List.getElem?_eq_none (by simpa using h1)] at hi
        cases hi
    subst h0
    simp at hi
    subst hi
    have := heap_alloc_new w o
    rwa [h.size] at this
/-- The cells of a made block. -/
theorem PR.cell (h : PR W bl w) {i j : Nat} {cs : Array Value} {t : TypeId} {f : Nat × Nat} {v : Value} (hi : bl[i]? = some (.cells cs t f)) (hj : cs[j]? = some v) : w.cell? ⟨W.heap.size + i, j, none⟩ = some v := by
  simp [World.cell?, h.blk i _ hi, hj]
theorem PR.thaw (h : PR W bl w) {i j : Nat} {cs : Array Value} {t : TypeId} (hi : bl[i]? = some (.cells cs t)) : w.frozen? ⟨W.heap.size + i, j, none⟩ = false := by
  simp [World.frozen?, h.blk i _ hi]
theorem PR.since (h : PR W bl w) (s : Since AtRel w w₁) : PR W bl w₁ := s.elim (fun e => e ▸ h) fun r => h.rely r
theorem PR.top (h : PR W bl w) : w.heap.size = W.heap.size + bl.length := h.size
/-- A cell of a made block is written. -/
theorem PR.set (h : PR W bl w) {i j : Nat} {cs : Array Value} {t : TypeId} (hi : bl[i]? = some (.cells cs t)) (v : Value) : PR W (bl.set i (.cells (cs.setIfInBounds j v) t)) (w.setCell ⟨W.heap.size + i, j, none⟩ v) := by
  have hA := aside_setCell w ⟨W.heap.size + i, j, none⟩ v
  have hlt : i < bl.length := (List.getElem?_eq_some_iff.1 hi).1
  have hb := h.blk i _ hi
  refine ⟨hA.os.trans h.os, hA.tape.trans h.tape, hA.output.trans h.output, by rw [hA.size, h.size]; simp, fun b hb' => (hA.block b (by simp; omega)).trans (h.keep b hb'), fun i' o hi' => ?_⟩
  by_cases e : i' = i
  · subst e
    rw [List.getElem?_set_self hlt] at hi'
    cases hi'
    rw [setCell_eq_setRow w _ j cs t (0, 0) _ hb, setRow_heap w _ _ _ _ _ hb]
  · rw [List.getElem?_set_ne (Ne.symm e)] at hi'
    exact (hA.block _ (by simp; omega)).trans (h.blk i' o hi')
end

end Go.Proofs.Ytechkghnmgimbaa

namespace Go.Proofs.Ytechkghnmgimbaa
open Go.Conc Go.ConcN Go.RowKit Go.Conc.Lib Go.ConcR.Gen Go.ConcN.Gen Plain Go.Veiled
set_option linter.unusedVariables false
set_option linter.unusedSimpArgs false
set_option linter.unusedSectionVars false

/-- Touches only cells of blocks from N on, below Bd. -/
def DL (N Bd : Nat) (_ _ : World) (es : Array Event) : Prop := ∀ e ∈ es, ∃ a : Addr, e.loc = .cell a ∧ N ≤ a.block ∧ a.block < Bd

theorem termsL (N Bd : Nat) : Terms AtRel (DL N Bd) := ⟨fun a b c h k => atRel_trans a b c h k, fun _ e he => by simp at he⟩

/-- The events of a read of made cells. -/
theorem dl_read {P : Program} {fn : FuncId} {ac : Act} {o : Oper} {w : World} {N Bd b : Nat} {k : List Nat} (he : (execOp ac.eval o).events P w #[] = (k.map fun j => (⟨.cell ⟨b, j, none⟩, false, false⟩ : Event)).toArray) (h : N ≤ b ∧ b < Bd) : DL N Bd w w (listed P fn ac o w) := by
  intro e hm
  have hm := mem_listed hm
  rw [he] at hm
  simp only [List.mem_toArray, List.mem_map] at hm
  obtain ⟨j, _, rfl⟩ := hm
  exact ⟨_, rfl, h⟩

theorem conv_iw (n : Int) (w : World) (es : Array Event) : (convert 3 40 (.int .i64 n)).events Try.prog w es = es := events_convert_int _ _ _ _ (by kernel_rfl) (by kernel_rfl) es

set_option maxRecDepth 100000 in
set_option maxHeartbeats 1000000 in
/-- IsTable, the number of variables being none. -/
theorem Wk.isTable_out : ∃ k, ∀ (W : World) (Bd : Nat) (bl : List Obj) (n a : Int) (_ : ¬ (0 ≤ n ∧ n ≤ 5)) (_ : W.heap.size + bl.length < Bd) (w : World), PR W bl w →
    CallsC Try.prog true AtRel (DL W.heap.size Bd) 37 #[.agg #[.int .i64 n, .int .i64 a]] k w fun v w' => v = .bool false ∧ PR W (bl ++ [.cells #[.int .i64 n, .int .i64 a] 26]) w' := by
  obtain ⟨n1, h1⟩ := Wk.bits
  co_apply Exists.intro
  intro W Bd bl n a hn hBd w hF
  have T := termsL W.heap.size Bd
  have hb := fun w => h1 n trivial true AtRel (DL W.heap.size Bd) T w
  rw [show decide (0 ≤ n ∧ n ≤ 5) = false from by simp [hn]] at hb
  co_apply callsC_of_wpC Try.func37 (by rfl) rfl
  simp only [Try.ntmps37, List.size_toArray, List.length_cons, List.length_nil, Nat.reduceAdd, Nat.reduceSub, Array.replicate_succ, Array.replicate_zero, List.push_toArray, List.append_toArray, List.nil_append, List.cons_append]
  co_apply wpC_seq T
  co_reg T
  co_apply opsC_cons_k rfl (by rfl)
  intro _ hR K hK
  replace hF := hF.rely hR
  clear hR
  have hsz := hF.size
  go_simp
  refine hK _ _ ⟨(by rw [listed_nil (by simp [go_sem])]; intro e he; simp at he), ?_⟩
  clear hK K
  replace hF := hF.alloc (.cells #[.int .i64 n, .int .i64 a] 26)
  try rw [hsz]
  have hc0 := fun w (h : PR W (bl ++ [.cells #[.int .i64 n, .int .i64 a] 26]) w) => h.cell (i := bl.length) (j := 0) (cs := #[.int .i64 n, .int .i64 a]) (t := 26) (f := (0, 0)) (by simp) rfl
  have hc1 := fun w (h : PR W (bl ++ [.cells #[.int .i64 n, .int .i64 a] 26]) w) => h.cell (i := bl.length) (j := 1) (cs := #[.int .i64 n, .int .i64 a]) (t := 26) (f := (0, 0)) (by simp) rfl
  clear hsz
  try walk_nrm
  co_op PR.rely hF (co_quiet T)
  co_apply opsC_nil T
  co_then
  co_apply wpC_seq T
  co_reg T
  co_op PR.rely hF (co_quiet T)
  co_apply opsC_cons_k rfl (by rfl)
  intro _ hR K hK
  replace hF := hF.rely hR
  clear hR
  have hx := hc0 _ hF
  go_simp
  refine hK _ _ ⟨dl_read (k := [0]) (b := W.heap.size + bl.length) (by simp [go_sem, *]) (by omega), ?_⟩
  clear hK K hx
  try walk_nrm
  co_apply opsC_callv T rfl (by rfl) rfl (by simp [Act.eval]) (vs := #[.int .i64 n]) (hb _)
  rintro v w' ⟨rfl, hS⟩
  replace hF := hF.since hS
  clear hS
  try walk_nrm
  co_op PR.rely hF (co_quiet T)
  co_apply opsC_unwanted T rfl (by rfl)
  try walk_nrm
  co_apply opsC_unwanted T rfl (by rfl)
  try walk_nrm
  co_apply opsC_unwanted T rfl (by rfl)
  try walk_nrm
  co_apply opsC_unwanted T rfl (by rfl)
  try walk_nrm
  co_apply opsC_unwanted T rfl (by rfl)
  try walk_nrm
  co_apply opsC_unwanted T rfl (by rfl)
  try walk_nrm
  co_go T PR.rely hF (co_quiet T)
  exact ⟨rfl, _, resultsC_tmp (by rfl) _, rfl, hF⟩

set_option maxRecDepth 100000 in
set_option maxHeartbeats 1000000 in
theorem Wk.isTable_in : ∃ k, ∀ (W : World) (Bd : Nat) (bl : List Obj) (n : Nat) (a : Int) (_ : n ≤ 5) (_ : -9223372036854775808 ≤ a ∧ a ≤ 9223372036854775807) (_ : W.heap.size + bl.length < Bd) (w : World), PR W bl w →
    CallsC Try.prog true AtRel (DL W.heap.size Bd) 37 #[.agg #[.int .i64 n, .int .i64 a]] k w fun v w' => v = .bool (isT n a) ∧ PR W (bl ++ [.cells #[.int .i64 n, .int .i64 a] 26]) w' := by
  obtain ⟨n1, h1⟩ := Wk.bits
  obtain ⟨n2, h2⟩ := Wk.fits
  co_apply Exists.intro
  intro W Bd bl n a hn ha hBd w hF
  have T := termsL W.heap.size Bd
  have hb := fun w => h1 n trivial true AtRel (DL W.heap.size Bd) T w
  rw [show decide (0 ≤ (n : Int) ∧ (n : Int) ≤ 5) = true from decide_eq_true (by omega)] at hb
  obtain ⟨x, hx⟩ : ∃ x : Nat, IntKind.u64.wrap a = (x : Int) := ⟨(IntKind.u64.wrap a).toNat, by rw [IntKind.wrap_u64]; omega⟩
  have hf := fun w => h2 n hn x true AtRel (DL W.heap.size Bd) T w
  have hfin : decide (x ≤ fullN n) = isT n a := by
    have hful := fullN_le n hn
    rw [IntKind.wrap_u64] at hx
    unfold Plain.isT
    apply decide_eq_decide.2
    constructor
    · intro h
      refine ⟨by omega, by omega, ?_, ?_⟩
      · by_cases h0 : 0 ≤ a
        · exact h0
        · exfalso; omega
      · by_cases h0 : 0 ≤ a
        · show a ≤ (fullN (n : Int).toNat : Int)
          rw [Int.toNat_natCast]
          omega
        · exfalso; omega
    · rintro ⟨_, _, h3, h4⟩
      rw [Int.toNat_natCast] at h4
      omega
  co_apply callsC_of_wpC Try.func37 (by rfl) rfl
  simp only [Try.ntmps37, List.size_toArray, List.length_cons, List.length_nil, Nat.reduceAdd, Nat.reduceSub, Array.replicate_succ, Array.replicate_zero, List.push_toArray, List.append_toArray, List.nil_append, List.cons_append]
  co_apply wpC_seq T
  co_reg T
  co_apply opsC_cons_k rfl (by rfl)
  intro _ hR K hK
  replace hF := hF.rely hR
  clear hR
  have hsz := hF.size
  go_simp
  refine hK _ _ ⟨(by rw [listed_nil (by simp [go_sem])]; intro e he; simp at he), ?_⟩
  clear hK K
  replace hF := hF.alloc (.cells #[.int .i64 n, .int .i64 a] 26)
  try rw [hsz]
  have hc0 := fun w (h : PR W (bl ++ [.cells #[.int .i64 n, .int .i64 a] 26]) w) => h.cell (i := bl.length) (j := 0) (cs := #[.int .i64 n, .int .i64 a]) (t := 26) (f := (0, 0)) (by simp) rfl
  have hc1 := fun w (h : PR W (bl ++ [.cells #[.int .i64 n, .int .i64 a] 26]) w) => h.cell (i := bl.length) (j := 1) (cs := #[.int .i64 n, .int .i64 a]) (t := 26) (f := (0, 0)) (by simp) rfl
  clear hsz
  try walk_nrm
  co_op PR.rely hF (co_quiet T)
  co_apply opsC_nil T
  co_then
  co_apply wpC_seq T
  co_reg T
  co_op PR.rely hF (co_quiet T)
  co_apply opsC_cons_k rfl (by rfl)
  intro _ hR K hK
  replace hF := hF.rely hR
  clear hR
  have hx := hc0 _ hF
  go_simp
  refine hK _ _ ⟨dl_read (k := [0]) (b := W.heap.size + bl.length) (by simp [go_sem, *]) (by omega), ?_⟩
  clear hK K hx
  try walk_nrm
  co_apply opsC_callv T rfl (by rfl) rfl (by simp [Act.eval]) (vs := #[.int .i64 n]) (hb _)
  rintro v w' ⟨rfl, hS⟩
  replace hF := hF.since hS
  clear hS
  try walk_nrm
  co_op PR.rely hF (co_quiet T)
  co_op PR.rely hF (co_quiet T)
  co_apply opsC_cons_k rfl (by rfl)
  intro _ hR K hK
  replace hF := hF.rely hR
  clear hR
  have hx := hc1 _ hF
  go_simp
  refine hK _ _ ⟨dl_read (k := [1]) (b := W.heap.size + bl.length) (by simp [go_sem, *]) (by omega), ?_⟩
  clear hK K hx
  try walk_nrm
  co_op PR.rely hF ((rw [listed_nil (by simp [go_sem, conv_iw])]; exact Terms.idle T _))
  try rw [hx]
  co_op PR.rely hF (co_quiet T)
  co_apply opsC_cons_k rfl (by rfl)
  intro _ hR K hK
  replace hF := hF.rely hR
  clear hR
  have hx := hc0 _ hF
  go_simp
  refine hK _ _ ⟨dl_read (k := [0]) (b := W.heap.size + bl.length) (by simp [go_sem, *]) (by omega), ?_⟩
  clear hK K hx
  try walk_nrm
  co_apply opsC_callv T rfl (by rfl) rfl (by simp [Act.eval]) (vs := #[.int .u64 x, .int .i64 n]) (hf _)
  rintro v w' ⟨rfl, hS⟩
  replace hF := hF.since hS
  clear hS
  try walk_nrm
  co_go T PR.rely hF (co_quiet T)
  exact ⟨rfl, _, resultsC_tmp (by rfl) _, by show Value.bool _ = _; first | rfl | rw [hfin], hF⟩

end Go.Proofs.Ytechkghnmgimbaa

namespace Go.Proofs.Ytechkghnmgimbaa
open Go.Conc Go.ConcN Go.RowKit Go.Conc.Lib Go.ConcR.Gen Go.ConcN.Gen Plain Go.Veiled
open Go.ConcR (KK wgBlock WgAt stA smA rd wr mk Payload Aside2 DC0 ofEvent_cell)
set_option linter.unusedVariables false
set_option linter.unusedSimpArgs false
set_option linter.unusedSectionVars false
attribute [local go_sem] Wk.run_makeFunc Wk.events_makeFunc
@[local go_sem] theorem events_store_slice (P : Program) (w : World) (es : Array Event) (a : Addr) (m : Mode) (b : Option Addr) (l c : Nat) : (store a (.slice b l c) m).events P w es = storedEv P w es a (.slice b l c) m := events_store P w es a _ m rfl
theorem Wk.infoInt : (Try.prog.info? 3).map (fun i => (i.zero, i.size, i.bytes)) = some (some (.int .i64 0), 1, 8) := by kernel_rfl

theorem dl_nil {N Bd : Nat} {w w' : World} : DL N Bd w w' #[] := fun e he => by simp at he
theorem dl_write {P : Program} {fn : FuncId} {ac : Act} {o : Oper} {w w' : World} {N Bd b : Nat} (he : (execOp ac.eval o).events P w #[] = #[⟨.cell ⟨b, 0, none⟩, true, false⟩]) (h : N ≤ b ∧ b < Bd) : DL N Bd w w' (listed P fn ac o w) := by
  intro e hm
  have hm := mem_listed hm
  rw [he, Array.mem_singleton] at hm
  subst hm
  exact ⟨_, rfl, h⟩
theorem Wk.isTable : ∃ k, ∀ (W : World) (Bd : Nat) (bl : List Obj) (n a : Int) (_ : -9223372036854775808 ≤ a ∧ a ≤ 9223372036854775807) (_ : W.heap.size + bl.length < Bd) (w : World), PR W bl w →
    CallsC Try.prog true AtRel (DL W.heap.size Bd) 37 #[.agg #[.int .i64 n, .int .i64 a]] k w fun v w' => v = .bool (isT n a) ∧ PR W (bl ++ [.cells #[.int .i64 n, .int .i64 a] 26]) w' := by
  obtain ⟨k1, h1⟩ := Wk.isTable_out
  obtain ⟨k2, h2⟩ := Wk.isTable_in
  refine ⟨k1 + k2, fun W Bd bl n a ha hB w hF => ?_⟩
  by_cases hn : 0 ≤ n ∧ n ≤ 5
  · obtain ⟨m, rfl⟩ := Int.eq_ofNat_of_zero_le hn.1
    exact callsC_more (h2 W Bd bl m a (by omega) ha hB w hF) (by omega)
  · rw [isT_out hn]
    exact callsC_more (h1 W Bd bl n a hn hB w hF) (by omega)

set_option maxRecDepth 100000 in
set_option maxHeartbeats 4000000 in
/-- No table: an empty list. -/
theorem Wk.prologue_no : ∃ k, ∀ (W : World) (args parts : Array Value) (u1 u2 u3 u4 u5 u6 u7 u8 u9 u10 u11 u12 u13 : Value) (hargs : args ++ Array.replicate (14 - args.size) undef = #[.agg parts, u1, u2, u3, u4, u5, u6, u7, u8, u9, u10, u11, u12, u13]) (n a : Int) (c : Frame) (l : List Frame) (hp0 : parts[0]? = some (.int .i64 n)) (hp1 : parts[1]? = some (.int .i64 a)) (HR : -9223372036854775808 ≤ a ∧ a ≤ 9223372036854775807) (hIs : isT n a = false),
    Goes Try.prog true AtRel (DL W.heap.size (W.heap.size + 20)) (fun g w => g = G (c.finish (.slice none 0 0)) l ∧ PR W [.cells parts 26, .cells #[.int .i64 n, .int .i64 a] 26] w) k (G (Frame.enter Try.prog 14 args .normal) (c :: l)) W := by
  obtain ⟨kT, hT⟩ := Wk.isTable
  refine ⟨200 + kT + 3 + 60, fun W args parts u1 u2 u3 u4 u5 u6 u7 u8 u9 u10 u11 u12 u13 hargs n a c l hp0 hp1 HR hIs => ?_⟩
  have hent : Frame.enter Try.prog 14 args .normal = (base 14).at ⟨#[.agg parts, u1, u2, u3, u4, u5, u6, u7, u8, u9, u10, u11, u12, u13], []⟩ [.code Wk.body17] := by
    have hnt : Try.f14.ntmps = 14 := Try.ntmps14
    rw [← hargs]
    simp [Frame.enter, Try.func14, hnt, Frame.at, base, Wk.body17, Try.f14]
  rw [hent]
  have hF := PR.refl W
  simp only [Wk.body17, Try.f14, Option.getD_some]
  refine Goes.step rfl (fun _ h₁ => ?_)
  replace hF := hF.rely h₁
  clear h₁
  rw [stepG_seq]
  simp only [goes_go]
  refine ⟨dl_nil, ?_⟩
  refine Goes.step rfl (fun _ h₁ => ?_)
  replace hF := hF.rely h₁
  clear h₁
  rw [stepG_region]
  simp only [goes_go, List.size_toArray, List.length_cons, List.length_nil, Nat.reduceAdd, Nat.zero_add, List.range, List.range.loop]
  refine ⟨dl_nil, ?_⟩
  refine Goes.step rfl (fun _ h₁ => ?_)
  replace hF := hF.rely h₁
  clear h₁
  refine goes_oper_k rfl rfl (by decide) (fun K hK => ?_)
  have hsz : _ = W.heap.size + 0 := hF.size
  go_simp
  refine hK _ _ ⟨(by rw [listed_nil (by simp [go_sem, *])]; exact dl_nil), ?_⟩
  clear hK K
  replace hF : PR W [.cells parts 26] _ := hF.alloc (.cells parts 26)
  try rw [hsz]
  clear hsz
  try walk_nrm
  refine Goes.step rfl (fun _ h₁ => ?_)
  replace hF := hF.rely h₁
  clear h₁
  refine goes_oper_k rfl rfl (by decide) (fun K hK => ?_)
  go_simp
  refine hK _ _ ⟨(by rw [listed_nil (by simp [go_sem, conv_iw, events_store_slice, storedEv])]; exact dl_nil), ?_⟩
  clear hK K
  try walk_nrm
  refine Goes.step rfl (fun _ h₁ => ?_)
  replace hF := hF.rely h₁
  clear h₁
  rw [stepG_region_end]
  simp only [goes_go]
  refine ⟨dl_nil, ?_⟩
  refine Goes.step rfl (fun _ h₁ => ?_)
  replace hF := hF.rely h₁
  clear h₁
  rw [stepG_seq]
  simp only [goes_go]
  refine ⟨dl_nil, ?_⟩
  refine Goes.step rfl (fun _ h₁ => ?_)
  replace hF := hF.rely h₁
  clear h₁
  rw [stepG_seq]
  simp only [goes_go]
  refine ⟨dl_nil, ?_⟩
  refine Goes.step rfl (fun _ h₁ => ?_)
  replace hF := hF.rely h₁
  clear h₁
  rw [stepG_region]
  simp only [goes_go, List.size_toArray, List.length_cons, List.length_nil, Nat.reduceAdd, Nat.zero_add, List.range, List.range.loop]
  refine ⟨dl_nil, ?_⟩
  refine Goes.step rfl (fun _ h₁ => ?_)
  replace hF := hF.rely h₁
  clear h₁
  refine goes_oper_k rfl rfl (by decide) (fun K hK => ?_)
  have hx0 : World.cell? _ ⟨W.heap.size, 0, none⟩ = some (.int .i64 n) := hF.cell (i := 0) (j := 0) (cs := parts) (t := 26) (f := (0, 0)) rfl hp0
  have hx1 : World.cell? _ ⟨W.heap.size, 1, none⟩ = some (.int .i64 a) := hF.cell (i := 0) (j := 1) (cs := parts) (t := 26) (f := (0, 0)) rfl hp1
  go_simp
  refine hK _ _ ⟨dl_read (k := [0, 1]) (b := W.heap.size) (by simp [go_sem, *]) (by omega), ?_⟩
  clear hK K hx0 hx1
  try walk_nrm
  refine Go.Conc.Goes.mono (n := 200 + kT + 3) ?_ (by omega)
  refine Go.Veiled.Goes.callv (termsL W.heap.size (W.heap.size + 20)) rfl rfl (by decide) rfl (by simp [Act.eval]) (vs := #[.agg #[.int .i64 n, .int .i64 a]]) (hT W (W.heap.size + 20) [.cells parts 26] n a HR (by show _ + 1 < _; omega) _ hF) ?_
  clear hF
  rintro v w' ⟨rfl, hF⟩
  replace hF : PR W [.cells parts 26, .cells #[.int .i64 n, .int .i64 a] 26] w' := hF
  try rw [hIs]
  try walk_nrm
  refine Goes.step rfl (fun _ h₁ => ?_)
  replace hF := hF.rely h₁
  clear h₁
  refine goes_oper_k rfl rfl (by decide) (fun K hK => ?_)
  go_simp
  refine hK _ _ ⟨(by rw [listed_nil (by simp [go_sem, conv_iw, events_store_slice, storedEv])]; exact dl_nil), ?_⟩
  clear hK K
  try walk_nrm
  refine Goes.step rfl (fun _ h₁ => ?_)
  replace hF := hF.rely h₁
  clear h₁
  rw [stepG_region_end]
  simp only [goes_go]
  refine ⟨dl_nil, ?_⟩
  refine Goes.step rfl (fun _ h₁ => ?_)
  replace hF := hF.rely h₁
  clear h₁
  rw [stepG_cond (t := true) rfl]
  simp only [goes_go, if_true, if_false, Bool.false_eq_true, ↓reduceIte]
  refine ⟨dl_nil, ?_⟩
  refine Goes.step rfl (fun _ h₁ => ?_)
  replace hF := hF.rely h₁
  clear h₁
  rw [stepG_seq]
  simp only [goes_go]
  refine ⟨dl_nil, ?_⟩
  refine Goes.step rfl (fun _ h₁ => ?_)
  replace hF := hF.rely h₁
  clear h₁
  rw [stepG_region]
  simp only [goes_go, List.size_toArray, List.length_cons, List.length_nil, Nat.reduceAdd, Nat.zero_add, List.range, List.range.loop]
  refine ⟨dl_nil, ?_⟩
  refine Goes.step rfl (fun _ h₁ => ?_)
  replace hF := hF.rely h₁
  clear h₁
  refine goes_oper_k rfl rfl (by decide) (fun K hK => ?_)
  go_simp
  refine hK _ _ ⟨(by rw [listed_nil (by simp [go_sem, conv_iw, events_store_slice, storedEv])]; exact dl_nil), ?_⟩
  clear hK K
  try walk_nrm
  refine Goes.step rfl (fun _ h₁ => ?_)
  replace hF := hF.rely h₁
  clear h₁
  rw [stepG_region_end]
  simp only [goes_go]
  refine ⟨dl_nil, ?_⟩
  refine Goes.step rfl (fun _ h₁ => ?_)
  replace hF := hF.rely h₁
  clear h₁
  rw [stepG_ret']
  simp only [goes_go]
  refine ⟨dl_nil, ?_⟩
  refine Goes.step rfl (fun _ h₁ => ?_)
  replace hF := hF.rely h₁
  clear h₁
  rw [stepG_leave (v := .slice none 0 0) rfl rfl Try.func14 (by simp [results, Try.f14]) (by simp [results, Try.f14])]
  simp only [goes_go]
  refine ⟨dl_nil, Goes.stop fun w₂ r₂ => ⟨rfl, hF.rely r₂⟩⟩

set_option maxRecDepth 100000 in
set_option maxHeartbeats 8000000 in
/-- A table: to the head of the loop. -/
theorem Wk.prologue : ∃ k, ∀ (W : World) (args parts : Array Value) (u1 u2 u3 u4 u5 u6 u7 u8 u9 u10 u11 u12 u13 : Value) (hargs : args ++ Array.replicate (14 - args.size) undef = #[.agg parts, u1, u2, u3, u4, u5, u6, u7, u8, u9, u10, u11, u12, u13]) (n a : Nat) (c : Frame) (l : List Frame) (hp0 : parts[0]? = some (.int .i64 n)) (hp1 : parts[1]? = some (.int .i64 a)) (hn : n ≤ 5) (ha : (a : Int) ≤ 4294967295) (hIs : isT n a = true),
    Goes Try.prog true AtRel (DL W.heap.size (W.heap.size + 20)) (fun g w => ∃ T T1 T2 : Array Value, T2.size = 14 ∧ g = G ((base 49).at ⟨T, []⟩ [.code Wk.L64, .inLoop Wk.L64, .inBlock 0, .code Wk.R64]) (Wk.c47 T1 :: Wk.c17 T2 :: c :: l) ∧ Wk.Head 39 (W.heap.size + 2) (2 ^ n) n a w T T1 ∧ PR W [.cells parts 26, .cells #[.int .i64 n, .int .i64 a] 26, .cells #[.int .u64 a] 40, .cells #[.int .i64 n] 3, .cells #[.func (.func 39) #[] #[.pointer (some ⟨W.heap.size + 2, 0, none⟩)]] 42, .cells (madeCells #[.int .i64 0] (2 ^ n)) 3, .cells #[.slice (some ⟨W.heap.size + 5, 0, none⟩) (2 ^ n) (2 ^ n)] 24, .cells #[.func (.func 55) #[] #[.pointer (some ⟨W.heap.size + 3, 0, none⟩), .pointer (some ⟨W.heap.size + 4, 0, none⟩), .pointer (some ⟨W.heap.size + 6, 0, none⟩)]] 48, .cells #[.int .u64 0, .int .u32 0] 65] w) k (G (Frame.enter Try.prog 14 args .normal) (c :: l)) W := by
  obtain ⟨kT, hT⟩ := Wk.isTable
  obtain ⟨kC, hC⟩ := Wk.count
  obtain ⟨i0, hi, hz0, hz1, hz2⟩ := info_parts Wk.infoInt
  refine ⟨200 + kC + 3 + 60 + kT + 3 + 60, fun W args parts u1 u2 u3 u4 u5 u6 u7 u8 u9 u10 u11 u12 u13 hargs n a c l hp0 hp1 hn ha hIs => ?_⟩
  have HR : -9223372036854775808 ≤ (a : Int) ∧ (a : Int) ≤ 9223372036854775807 := by omega
  have h32 := two_pow_le n hn
  obtain ⟨M, hM⟩ : ∃ M, 2 ^ n = M := ⟨_, rfl⟩
  rw [hM] at h32
  have hmk := fun w => run_make (P := Try.prog) w 24 3 i0 (.int .i64 0) Try.underlying24 hi hz0 .i64 .i64 M M (by omega) (by omega) (by rw [hz2]; omega) (by omega)
  have hme := fun w es => events_make (P := Try.prog) w 24 3 i0 (.int .i64 0) Try.underlying24 hi hz0 .i64 .i64 M M (by omega) (by omega) (by rw [hz2]; omega) (by omega) (by rw [hz2]; simp; omega) es
  have hcnt := fun w => hC true AtRel (DL W.heap.size (W.heap.size + 20)) (termsL W.heap.size (W.heap.size + 20)) n hn w
  simp only [hM] at hcnt ⊢
  have hconv : IntKind.u64.wrap (a : Int) = (a : Int) := by rw [IntKind.wrap_u64]; omega
  have hent : Frame.enter Try.prog 14 args .normal = (base 14).at ⟨#[.agg parts, u1, u2, u3, u4, u5, u6, u7, u8, u9, u10, u11, u12, u13], []⟩ [.code Wk.body17] := by
    have hnt : Try.f14.ntmps = 14 := Try.ntmps14
    rw [← hargs]
    simp [Frame.enter, Try.func14, hnt, Frame.at, base, Wk.body17, Try.f14]
  rw [hent]
  have hF := PR.refl W
  simp only [Wk.body17, Try.f14, Option.getD_some]
  refine Goes.step rfl (fun _ h₁ => ?_)
  replace hF := hF.rely h₁
  clear h₁
  rw [stepG_seq]
  simp only [goes_go]
  refine ⟨dl_nil, ?_⟩
  refine Goes.step rfl (fun _ h₁ => ?_)
  replace hF := hF.rely h₁
  clear h₁
  rw [stepG_region]
  simp only [goes_go, List.size_toArray, List.length_cons, List.length_nil, Nat.reduceAdd, Nat.zero_add, List.range, List.range.loop]
  refine ⟨dl_nil, ?_⟩
  refine Goes.step rfl (fun _ h₁ => ?_)
  replace hF := hF.rely h₁
  clear h₁
  refine goes_oper_k rfl rfl (by decide) (fun K hK => ?_)
  have hsz : _ = W.heap.size + 0 := hF.size
  go_simp
  refine hK _ _ ⟨(by rw [listed_nil (by simp [go_sem, *])]; exact dl_nil), ?_⟩
  clear hK K
  replace hF : PR W [.cells parts 26] _ := hF.alloc (.cells parts 26)
  try rw [hsz]
  clear hsz
  try walk_nrm
  refine Goes.step rfl (fun _ h₁ => ?_)
  replace hF := hF.rely h₁
  clear h₁
  refine goes_oper_k rfl rfl (by decide) (fun K hK => ?_)
  go_simp
  refine hK _ _ ⟨(by rw [listed_nil (by simp [go_sem, conv_iw, events_store_slice, storedEv])]; exact dl_nil), ?_⟩
  clear hK K
  try walk_nrm
  refine Goes.step rfl (fun _ h₁ => ?_)
  replace hF := hF.rely h₁
  clear h₁
  rw [stepG_region_end]
  simp only [goes_go]
  refine ⟨dl_nil, ?_⟩
  refine Goes.step rfl (fun _ h₁ => ?_)
  replace hF := hF.rely h₁
  clear h₁
  rw [stepG_seq]
  simp only [goes_go]
  refine ⟨dl_nil, ?_⟩
  refine Goes.step rfl (fun _ h₁ => ?_)
  replace hF := hF.rely h₁
  clear h₁
  rw [stepG_seq]
  simp only [goes_go]
  refine ⟨dl_nil, ?_⟩
  refine Goes.step rfl (fun _ h₁ => ?_)
  replace hF := hF.rely h₁
  clear h₁
  rw [stepG_region]
  simp only [goes_go, List.size_toArray, List.length_cons, List.length_nil, Nat.reduceAdd, Nat.zero_add, List.range, List.range.loop]
  refine ⟨dl_nil, ?_⟩
  refine Goes.step rfl (fun _ h₁ => ?_)
  replace hF := hF.rely h₁
  clear h₁
  refine goes_oper_k rfl rfl (by decide) (fun K hK => ?_)
  have hx0 : World.cell? _ ⟨W.heap.size, 0, none⟩ = some (.int .i64 n) := hF.cell (i := 0) (j := 0) (cs := parts) (t := 26) (f := (0, 0)) rfl hp0
  have hx1 : World.cell? _ ⟨W.heap.size, 1, none⟩ = some (.int .i64 a) := hF.cell (i := 0) (j := 1) (cs := parts) (t := 26) (f := (0, 0)) rfl hp1
  go_simp
  refine hK _ _ ⟨dl_read (k := [0, 1]) (b := W.heap.size) (by simp [go_sem, *]) (by omega), ?_⟩
  clear hK K hx0 hx1
  try walk_nrm
  refine Go.Conc.Goes.mono (n := (200 + kC + 3 + 60) + kT + 3) ?_ (by omega)
  refine Go.Veiled.Goes.callv (termsL W.heap.size (W.heap.size + 20)) rfl rfl (by decide) rfl (by simp [Act.eval]) (vs := #[.agg #[.int .i64 n, .int .i64 a]]) (hT W (W.heap.size + 20) [.cells parts 26] n a HR (by show _ + 1 < _; omega) _ hF) ?_
  clear hF
  rintro v w' ⟨rfl, hF⟩
  replace hF : PR W [.cells parts 26, .cells #[.int .i64 n, .int .i64 a] 26] w' := hF
  try rw [hIs]
  try walk_nrm
  refine Goes.step rfl (fun _ h₁ => ?_)
  replace hF := hF.rely h₁
  clear h₁
  refine goes_oper_k rfl rfl (by decide) (fun K hK => ?_)
  go_simp
  refine hK _ _ ⟨(by rw [listed_nil (by simp [go_sem, conv_iw, events_store_slice, storedEv])]; exact dl_nil), ?_⟩
  clear hK K
  try walk_nrm
  refine Goes.step rfl (fun _ h₁ => ?_)
  replace hF := hF.rely h₁
  clear h₁
  rw [stepG_region_end]
  simp only [goes_go]
  refine ⟨dl_nil, ?_⟩
  refine Goes.step rfl (fun _ h₁ => ?_)
  replace hF := hF.rely h₁
  clear h₁
  rw [stepG_cond (t := false) rfl]
  simp only [goes_go, if_true, if_false, Bool.false_eq_true, ↓reduceIte]
  refine ⟨dl_nil, ?_⟩
  refine Goes.step rfl (fun _ h₁ => ?_)
  replace hF := hF.rely h₁
  clear h₁
  rw [stepG_skip]
  simp only [goes_go]
  refine ⟨dl_nil, ?_⟩
  refine Goes.step rfl (fun _ h₁ => ?_)
  replace hF := hF.rely h₁
  clear h₁
  rw [stepG_seq]
  simp only [goes_go]
  refine ⟨dl_nil, ?_⟩
  refine Goes.step rfl (fun _ h₁ => ?_)
  replace hF := hF.rely h₁
  clear h₁
  rw [stepG_region]
  simp only [goes_go, List.size_toArray, List.length_cons, List.length_nil, Nat.reduceAdd, Nat.zero_add, List.range, List.range.loop]
  refine ⟨dl_nil, ?_⟩
  refine Goes.step rfl (fun _ h₁ => ?_)
  replace hF := hF.rely h₁
  clear h₁
  refine goes_oper_k rfl rfl (by decide) (fun K hK => ?_)
  go_simp
  refine hK _ _ ⟨(by rw [listed_nil (by simp [go_sem, conv_iw, events_store_slice, storedEv])]; exact dl_nil), ?_⟩
  clear hK K
  try walk_nrm
  refine Goes.step rfl (fun _ h₁ => ?_)
  replace hF := hF.rely h₁
  clear h₁
  refine goes_oper_k rfl rfl (by decide) (fun K hK => ?_)
  have hx : World.cell? _ ⟨W.heap.size, 1, none⟩ = some (.int .i64 a) := hF.cell (i := 0) (j := 1) (cs := parts) (t := 26) (f := (0, 0)) rfl hp1
  go_simp
  refine hK _ _ ⟨dl_read (k := [1]) (b := W.heap.size) (by simp [go_sem, *]) (by omega), ?_⟩
  clear hK K hx
  try walk_nrm
  refine Goes.step rfl (fun _ h₁ => ?_)
  replace hF := hF.rely h₁
  clear h₁
  refine goes_oper_k rfl rfl (by decide) (fun K hK => ?_)
  go_simp
  refine hK _ _ ⟨(by rw [listed_nil (by simp [go_sem, conv_iw, events_store_slice, storedEv])]; exact dl_nil), ?_⟩
  clear hK K
  try walk_nrm
  refine Goes.step rfl (fun _ h₁ => ?_)
  replace hF := hF.rely h₁
  clear h₁
  refine goes_oper_k rfl rfl (by decide) (fun K hK => ?_)
  have hsz : _ = W.heap.size + 2 := hF.size
  go_simp
  refine hK _ _ ⟨(by rw [listed_nil (by simp [go_sem, *])]; exact dl_nil), ?_⟩
  clear hK K
  replace hF : PR W [.cells parts 26, .cells #[.int .i64 n, .int .i64 a] 26, .cells #[.int .u64 0] 40] _ := hF.alloc (.cells #[.int .u64 0] 40)
  try rw [hsz]
  clear hsz
  try walk_nrm
  refine Goes.step rfl (fun _ h₁ => ?_)
  replace hF := hF.rely h₁
  clear h₁
  refine goes_oper_k rfl rfl (by decide) (fun K hK => ?_)
  have hx : World.cell? _ ⟨W.heap.size + 2, 0, none⟩ = some (.int .u64 0) := hF.cell (i := 2) (j := 0) (cs := #[.int .u64 0]) (t := 40) (f := (0, 0)) rfl rfl
  have hz : World.frozen? _ ⟨W.heap.size + 2, 0, none⟩ = false := hF.thaw (i := 2) (j := 0) (cs := #[.int .u64 0]) (t := 40) rfl
  go_simp
  refine hK _ _ ⟨dl_write (b := W.heap.size + 2) (by simp [go_sem, events_store_slice, storedEv, *]) (by omega), ?_⟩
  clear hK K hx hz
  replace hF : PR W [.cells parts 26, .cells #[.int .i64 n, .int .i64 a] 26, .cells #[.int .u64 a] 40] _ := hF.set (i := 2) (j := 0) (cs := #[.int .u64 0]) (t := 40) rfl (.int .u64 a)
  try walk_nrm
  refine Goes.step rfl (fun _ h₁ => ?_)
  replace hF := hF.rely h₁
  clear h₁
  rw [stepG_region_end]
  simp only [goes_go]
  refine ⟨dl_nil, ?_⟩
  refine Goes.step rfl (fun _ h₁ => ?_)
  replace hF := hF.rely h₁
  clear h₁
  rw [stepG_seq]
  simp only [goes_go]
  refine ⟨dl_nil, ?_⟩
  refine Goes.step rfl (fun _ h₁ => ?_)
  replace hF := hF.rely h₁
  clear h₁
  rw [stepG_region]
  simp only [goes_go, List.size_toArray, List.length_cons, List.length_nil, Nat.reduceAdd, Nat.zero_add, List.range, List.range.loop]
  refine ⟨dl_nil, ?_⟩
  refine Goes.step rfl (fun _ h₁ => ?_)
  replace hF := hF.rely h₁
  clear h₁
  refine goes_oper_k rfl rfl (by decide) (fun K hK => ?_)
  go_simp
  refine hK _ _ ⟨(by rw [listed_nil (by simp [go_sem, conv_iw, events_store_slice, storedEv])]; exact dl_nil), ?_⟩
  clear hK K
  try walk_nrm
  refine Goes.step rfl (fun _ h₁ => ?_)
  replace hF := hF.rely h₁
  clear h₁
  refine goes_oper_k rfl rfl (by decide) (fun K hK => ?_)
  have hx : World.cell? _ ⟨W.heap.size, 0, none⟩ = some (.int .i64 n) := hF.cell (i := 0) (j := 0) (cs := parts) (t := 26) (f := (0, 0)) rfl hp0
  go_simp
  refine hK _ _ ⟨dl_read (k := [0]) (b := W.heap.size) (by simp [go_sem, *]) (by omega), ?_⟩
  clear hK K hx
  try walk_nrm
  refine Goes.step rfl (fun _ h₁ => ?_)
  replace hF := hF.rely h₁
  clear h₁
  refine goes_oper_k rfl rfl (by decide) (fun K hK => ?_)
  go_simp
  refine hK _ _ ⟨(by rw [listed_nil (by simp [go_sem, conv_iw, events_store_slice, storedEv])]; exact dl_nil), ?_⟩
  clear hK K
  try walk_nrm
  refine Goes.step rfl (fun _ h₁ => ?_)
  replace hF := hF.rely h₁
  clear h₁
  refine goes_call rfl rfl (by decide) rfl Try.func38 (by kernel_rfl) rfl ⟨dl_nil, ?_⟩
  walk_nrmf Try.f38
  refine Goes.step rfl (fun _ h₁ => ?_)
  replace hF := hF.rely h₁
  clear h₁
  rw [stepG_seq]
  simp only [goes_go]
  refine ⟨dl_nil, ?_⟩
  refine Goes.step rfl (fun _ h₁ => ?_)
  replace hF := hF.rely h₁
  clear h₁
  rw [stepG_region]
  simp only [goes_go, List.size_toArray, List.length_cons, List.length_nil, Nat.reduceAdd, Nat.zero_add, List.range, List.range.loop]
  refine ⟨dl_nil, ?_⟩
  refine Goes.step rfl (fun _ h₁ => ?_)
  replace hF := hF.rely h₁
  clear h₁
  refine goes_oper_k rfl rfl (by decide) (fun K hK => ?_)
  have hsz : _ = W.heap.size + 3 := hF.size
  go_simp
  refine hK _ _ ⟨(by rw [listed_nil (by simp [go_sem, *])]; exact dl_nil), ?_⟩
  clear hK K
  replace hF : PR W [.cells parts 26, .cells #[.int .i64 n, .int .i64 a] 26, .cells #[.int .u64 a] 40, .cells #[.int .i64 n] 3] _ := hF.alloc (.cells #[.int .i64 n] 3)
  try rw [hsz]
  clear hsz
  try walk_nrm
  refine Goes.step rfl (fun _ h₁ => ?_)
  replace hF := hF.rely h₁
  clear h₁
  refine goes_oper_k rfl rfl (by decide) (fun K hK => ?_)
  have hsz : _ = W.heap.size + 4 := hF.size
  go_simp
  refine hK _ _ ⟨(by rw [listed_nil (by simp [go_sem, *])]; exact dl_nil), ?_⟩
  clear hK K
  replace hF : PR W [.cells parts 26, .cells #[.int .i64 n, .int .i64 a] 26, .cells #[.int .u64 a] 40, .cells #[.int .i64 n] 3, .cells #[.func (.func 39) #[] #[.pointer (some ⟨W.heap.size + 2, 0, none⟩)]] 42] _ := hF.alloc (.cells #[.func (.func 39) #[] #[.pointer (some ⟨W.heap.size + 2, 0, none⟩)]] 42)
  try rw [hsz]
  clear hsz
  try walk_nrm
  refine Goes.step rfl (fun _ h₁ => ?_)
  replace hF := hF.rely h₁
  clear h₁
  refine goes_oper_k rfl rfl (by decide) (fun K hK => ?_)
  go_simp
  refine hK _ _ ⟨(by rw [listed_nil (by simp [go_sem, conv_iw, events_store_slice, storedEv])]; exact dl_nil), ?_⟩
  clear hK K
  try walk_nrm
  refine Goes.step rfl (fun _ h₁ => ?_)
  replace hF := hF.rely h₁
  clear h₁
  rw [stepG_region_end]
  simp only [goes_go]
  refine ⟨dl_nil, ?_⟩
  refine Goes.step rfl (fun _ h₁ => ?_)
  replace hF := hF.rely h₁
  clear h₁
  rw [stepG_seq]
  simp only [goes_go]
  refine ⟨dl_nil, ?_⟩
  refine Goes.step rfl (fun _ h₁ => ?_)
  replace hF := hF.rely h₁
  clear h₁
  rw [stepG_region]
  simp only [goes_go, List.size_toArray, List.length_cons, List.length_nil, Nat.reduceAdd, Nat.zero_add, List.range, List.range.loop]
  refine ⟨dl_nil, ?_⟩
  refine Goes.step rfl (fun _ h₁ => ?_)
  replace hF := hF.rely h₁
  clear h₁
  refine goes_oper_k rfl rfl (by decide) (fun K hK => ?_)
  have hx : World.cell? _ ⟨W.heap.size + 3, 0, none⟩ = some (.int .i64 n) := hF.cell (i := 3) (j := 0) (cs := #[.int .i64 n]) (t := 3) (f := (0, 0)) rfl rfl
  go_simp
  refine hK _ _ ⟨dl_read (k := [0]) (b := W.heap.size + 3) (by simp [go_sem, *]) (by omega), ?_⟩
  clear hK K hx
  try walk_nrm
  refine Go.Conc.Goes.mono (n := 200 + kC + 3) ?_ (by omega)
  refine Go.Veiled.Goes.callv (termsL W.heap.size (W.heap.size + 20)) rfl rfl (by decide) rfl (by simp [Act.eval]) (vs := #[.int .i64 n]) (hcnt _) ?_
  rintro v w' ⟨rfl, hS⟩
  replace hF := hF.since hS
  clear hS
  try walk_nrm
  refine Goes.step rfl (fun _ h₁ => ?_)
  replace hF := hF.rely h₁
  clear h₁
  refine goes_oper_k rfl rfl (by decide) (fun K hK => ?_)
  have hsz : _ = W.heap.size + 5 := hF.size
  go_simp
  refine hK _ _ ⟨(by rw [listed_nil (by simp [go_sem, *])]; exact dl_nil), ?_⟩
  clear hK K
  replace hF : PR W [.cells parts 26, .cells #[.int .i64 n, .int .i64 a] 26, .cells #[.int .u64 a] 40, .cells #[.int .i64 n] 3, .cells #[.func (.func 39) #[] #[.pointer (some ⟨W.heap.size + 2, 0, none⟩)]] 42, .cells (madeCells #[.int .i64 0] M) 3] _ := hF.alloc (.cells (madeCells #[.int .i64 0] M) 3)
  try rw [hsz]
  clear hsz
  try walk_nrm
  refine Goes.step rfl (fun _ h₁ => ?_)
  replace hF := hF.rely h₁
  clear h₁
  refine goes_oper_k rfl rfl (by decide) (fun K hK => ?_)
  have hsz : _ = W.heap.size + 6 := hF.size
  go_simp
  refine hK _ _ ⟨(by rw [listed_nil (by simp [go_sem, *])]; exact dl_nil), ?_⟩
  clear hK K
  replace hF : PR W [.cells parts 26, .cells #[.int .i64 n, .int .i64 a] 26, .cells #[.int .u64 a] 40, .cells #[.int .i64 n] 3, .cells #[.func (.func 39) #[] #[.pointer (some ⟨W.heap.size + 2, 0, none⟩)]] 42, .cells (madeCells #[.int .i64 0] M) 3, .cells #[.slice none 0 0] 24] _ := hF.alloc (.cells #[.slice none 0 0] 24)
  try rw [hsz]
  clear hsz
  try walk_nrm
  refine Goes.step rfl (fun _ h₁ => ?_)
  replace hF := hF.rely h₁
  clear h₁
  refine goes_oper_k rfl rfl (by decide) (fun K hK => ?_)
  have hx : World.cell? _ ⟨W.heap.size + 6, 0, none⟩ = some (.slice none 0 0) := hF.cell (i := 6) (j := 0) (cs := #[.slice none 0 0]) (t := 24) (f := (0, 0)) rfl rfl
  have hz : World.frozen? _ ⟨W.heap.size + 6, 0, none⟩ = false := hF.thaw (i := 6) (j := 0) (cs := #[.slice none 0 0]) (t := 24) rfl
  go_simp
  refine hK _ _ ⟨dl_write (b := W.heap.size + 6) (by simp [go_sem, events_store_slice, storedEv, *]) (by omega), ?_⟩
  clear hK K hx hz
  replace hF : PR W [.cells parts 26, .cells #[.int .i64 n, .int .i64 a] 26, .cells #[.int .u64 a] 40, .cells #[.int .i64 n] 3, .cells #[.func (.func 39) #[] #[.pointer (some ⟨W.heap.size + 2, 0, none⟩)]] 42, .cells (madeCells #[.int .i64 0] M) 3, .cells #[.slice (some ⟨W.heap.size + 5, 0, none⟩) M M] 24] _ := hF.set (i := 6) (j := 0) (cs := #[.slice none 0 0]) (t := 24) rfl (.slice (some ⟨W.heap.size + 5, 0, none⟩) M M)
  try walk_nrm
  refine Goes.step rfl (fun _ h₁ => ?_)
  replace hF := hF.rely h₁
  clear h₁
  rw [stepG_region_end]
  simp only [goes_go]
  refine ⟨dl_nil, ?_⟩
  refine Goes.step rfl (fun _ h₁ => ?_)
  replace hF := hF.rely h₁
  clear h₁
  rw [stepG_seq]
  simp only [goes_go]
  refine ⟨dl_nil, ?_⟩
  refine Goes.step rfl (fun _ h₁ => ?_)
  replace hF := hF.rely h₁
  clear h₁
  rw [stepG_region]
  simp only [goes_go, List.size_toArray, List.length_cons, List.length_nil, Nat.reduceAdd, Nat.zero_add, List.range, List.range.loop]
  refine ⟨dl_nil, ?_⟩
  refine Goes.step rfl (fun _ h₁ => ?_)
  replace hF := hF.rely h₁
  clear h₁
  refine goes_oper_k rfl rfl (by decide) (fun K hK => ?_)
  have hx : World.cell? _ ⟨W.heap.size + 6, 0, none⟩ = some (.slice (some ⟨W.heap.size + 5, 0, none⟩) M M) := hF.cell (i := 6) (j := 0) (cs := #[.slice (some ⟨W.heap.size + 5, 0, none⟩) M M]) (t := 24) (f := (0, 0)) rfl rfl
  go_simp
  refine hK _ _ ⟨dl_read (k := [0]) (b := W.heap.size + 6) (by simp [go_sem, *]) (by omega), ?_⟩
  clear hK K hx
  try walk_nrm
  refine Goes.step rfl (fun _ h₁ => ?_)
  replace hF := hF.rely h₁
  clear h₁
  refine goes_oper_k rfl rfl (by decide) (fun K hK => ?_)
  go_simp
  refine hK _ _ ⟨(by rw [listed_nil (by simp [go_sem, conv_iw, events_store_slice, storedEv])]; exact dl_nil), ?_⟩
  clear hK K
  try walk_nrm
  refine Goes.step rfl (fun _ h₁ => ?_)
  replace hF := hF.rely h₁
  clear h₁
  refine goes_oper_k rfl rfl (by decide) (fun K hK => ?_)
  go_simp
  refine hK _ _ ⟨(by rw [listed_nil (by simp [go_sem, conv_iw, events_store_slice, storedEv])]; exact dl_nil), ?_⟩
  clear hK K
  try walk_nrm
  refine Goes.step rfl (fun _ h₁ => ?_)
  replace hF := hF.rely h₁
  clear h₁
  refine goes_call rfl rfl (by decide) rfl Try.func49 (by kernel_rfl) rfl ⟨dl_nil, ?_⟩
  walk_nrmf Try.f49
  refine Goes.step rfl (fun _ h₁ => ?_)
  replace hF := hF.rely h₁
  clear h₁
  rw [stepG_seq]
  simp only [goes_go]
  refine ⟨dl_nil, ?_⟩
  refine Goes.step rfl (fun _ h₁ => ?_)
  replace hF := hF.rely h₁
  clear h₁
  rw [stepG_region]
  simp only [goes_go, List.size_toArray, List.length_cons, List.length_nil, Nat.reduceAdd, Nat.zero_add, List.range, List.range.loop]
  refine ⟨dl_nil, ?_⟩
  refine Goes.step rfl (fun _ h₁ => ?_)
  replace hF := hF.rely h₁
  clear h₁
  refine goes_oper_k rfl rfl (by decide) (fun K hK => ?_)
  have hsz : _ = W.heap.size + 7 := hF.size
  go_simp
  refine hK _ _ ⟨(by rw [listed_nil (by simp [go_sem, *])]; exact dl_nil), ?_⟩
  clear hK K
  replace hF : PR W [.cells parts 26, .cells #[.int .i64 n, .int .i64 a] 26, .cells #[.int .u64 a] 40, .cells #[.int .i64 n] 3, .cells #[.func (.func 39) #[] #[.pointer (some ⟨W.heap.size + 2, 0, none⟩)]] 42, .cells (madeCells #[.int .i64 0] M) 3, .cells #[.slice (some ⟨W.heap.size + 5, 0, none⟩) M M] 24, .cells #[.func (.func 55) #[] #[.pointer (some ⟨W.heap.size + 3, 0, none⟩), .pointer (some ⟨W.heap.size + 4, 0, none⟩), .pointer (some ⟨W.heap.size + 6, 0, none⟩)]] 48] _ := hF.alloc (.cells #[.func (.func 55) #[] #[.pointer (some ⟨W.heap.size + 3, 0, none⟩), .pointer (some ⟨W.heap.size + 4, 0, none⟩), .pointer (some ⟨W.heap.size + 6, 0, none⟩)]] 48)
  try rw [hsz]
  clear hsz
  try walk_nrm
  refine Goes.step rfl (fun _ h₁ => ?_)
  replace hF := hF.rely h₁
  clear h₁
  rw [stepG_region_end]
  simp only [goes_go]
  refine ⟨dl_nil, ?_⟩
  refine Goes.step rfl (fun _ h₁ => ?_)
  replace hF := hF.rely h₁
  clear h₁
  rw [stepG_seq]
  simp only [goes_go]
  refine ⟨dl_nil, ?_⟩
  refine Goes.step rfl (fun _ h₁ => ?_)
  replace hF := hF.rely h₁
  clear h₁
  rw [stepG_region]
  simp only [goes_go, List.size_toArray, List.length_cons, List.length_nil, Nat.reduceAdd, Nat.zero_add, List.range, List.range.loop]
  refine ⟨dl_nil, ?_⟩
  refine Goes.step rfl (fun _ h₁ => ?_)
  replace hF := hF.rely h₁
  clear h₁
  refine goes_oper_k rfl rfl (by decide) (fun K hK => ?_)
  have hsz : _ = W.heap.size + 8 := hF.size
  go_simp
  refine hK _ _ ⟨(by rw [listed_nil (by simp [go_sem, *])]; exact dl_nil), ?_⟩
  clear hK K
  replace hF : PR W [.cells parts 26, .cells #[.int .i64 n, .int .i64 a] 26, .cells #[.int .u64 a] 40, .cells #[.int .i64 n] 3, .cells #[.func (.func 39) #[] #[.pointer (some ⟨W.heap.size + 2, 0, none⟩)]] 42, .cells (madeCells #[.int .i64 0] M) 3, .cells #[.slice (some ⟨W.heap.size + 5, 0, none⟩) M M] 24, .cells #[.func (.func 55) #[] #[.pointer (some ⟨W.heap.size + 3, 0, none⟩), .pointer (some ⟨W.heap.size + 4, 0, none⟩), .pointer (some ⟨W.heap.size + 6, 0, none⟩)]] 48, .cells #[.int .u64 0, .int .u32 0] 65] _ := hF.alloc (.cells #[.int .u64 0, .int .u32 0] 65)
  try rw [hsz]
  clear hsz
  try walk_nrm
  refine Goes.step rfl (fun _ h₁ => ?_)
  replace hF := hF.rely h₁
  clear h₁
  rw [stepG_region_end]
  simp only [goes_go]
  refine ⟨dl_nil, ?_⟩
  refine Goes.step rfl (fun _ h₁ => ?_)
  replace hF := hF.rely h₁
  clear h₁
  rw [stepG_seq]
  simp only [goes_go]
  refine ⟨dl_nil, ?_⟩
  refine Goes.step rfl (fun _ h₁ => ?_)
  replace hF := hF.rely h₁
  clear h₁
  rw [stepG_seq]
  simp only [goes_go]
  refine ⟨dl_nil, ?_⟩
  refine Goes.step rfl (fun _ h₁ => ?_)
  replace hF := hF.rely h₁
  clear h₁
  rw [stepG_region]
  simp only [goes_go, List.size_toArray, List.length_cons, List.length_nil, Nat.reduceAdd, Nat.zero_add, List.range, List.range.loop]
  refine ⟨dl_nil, ?_⟩
  refine Goes.step rfl (fun _ h₁ => ?_)
  replace hF := hF.rely h₁
  clear h₁
  refine goes_oper_k rfl rfl (by decide) (fun K hK => ?_)
  go_simp
  refine hK _ _ ⟨(by rw [listed_nil (by simp [go_sem, conv_iw, events_store_slice, storedEv])]; exact dl_nil), ?_⟩
  clear hK K
  try walk_nrm
  refine Goes.step rfl (fun _ h₁ => ?_)
  replace hF := hF.rely h₁
  clear h₁
  refine goes_oper_k rfl rfl (by decide) (fun K hK => ?_)
  go_simp
  refine hK _ _ ⟨(by rw [listed_nil (by simp [go_sem, conv_iw, events_store_slice, storedEv])]; exact dl_nil), ?_⟩
  clear hK K
  try walk_nrm
  refine Goes.step rfl (fun _ h₁ => ?_)
  replace hF := hF.rely h₁
  clear h₁
  rw [stepG_region_end]
  simp only [goes_go]
  refine ⟨dl_nil, ?_⟩
  refine Goes.step rfl (fun _ h₁ => ?_)
  replace hF := hF.rely h₁
  clear h₁
  rw [stepG_block]
  simp only [goes_go]
  refine ⟨dl_nil, ?_⟩
  refine Goes.step rfl (fun _ h₁ => ?_)
  replace hF := hF.rely h₁
  clear h₁
  rw [stepG_loop]
  simp only [goes_go]
  refine ⟨dl_nil, ?_⟩
  refine Goes.stop fun w₂ r₂ => ?_
  replace hF := hF.rely r₂
  simp only [Wk.L64, Wk.R64, Wk.body64, Try.f49, Option.getD_some, Wk.c47, Wk.ops2, Wk.tail2, Wk.body47, Try.f38, Wk.c17, Wk.ops4, Wk.body17, Try.f14]
  refine ⟨_, _, _, ?_, rfl, ?_, hF⟩
  · rfl
  · refine ⟨ha, hn, hM.symm, ⟨?_, ?_, ?_, ?_, ?_⟩, hF.size, ?_, ⟨_, hF.blk 5 _ rfl, size_madeCells _ _⟩, rfl, rfl, rfl, rfl, rfl, rfl, rfl⟩
    · exact hF.cell (i := 2) (j := 0) rfl rfl
    · exact hF.cell (i := 3) (j := 0) rfl rfl
    · exact hF.cell (i := 4) (j := 0) rfl rfl
    · exact hF.cell (i := 6) (j := 0) rfl rfl
    · exact hF.cell (i := 7) (j := 0) rfl rfl
    · unfold WgAt wgBlock
      exact hF.blk 8 _ rfl

end Go.Proofs.Ytechkghnmgimbaa
