/-
  Chapter 12, in company: a worker: where the memory lies, what the worker knows of it; the sum of one set.
  Chapter 12, in company: the sum of one set, written into its place.
  Chapter 12, in company: a worker's whole script, from its birth to its last steps.
  Chapter 12, in company: the starter, from the head of its loop to the return of the sums' list.
  Chapter 12, in company: the loop that starts the workers.
  Chapter 12, in company: alone, to the first go statement; the crew at the head of the loop.
-/
import Derived.Test.YtechkghnmgimbaaWkA
import Derived.Test.YtechkghnmgimbaaSpcP
import Derived.Conc.WgGenN3
import Derived.Conc.CrowdMono
import Derived.Laws.MakeOwn
import Derived.Test.YtechkghnmgimbaaGoX

namespace Go.Proofs.Ytechkghnmgimbaa
open Go.Conc Go.ConcN Go.RowKit Go.Conc.Lib Go.ConcR.Gen Go.ConcN.Gen Plain Go.Veiled
open Go.ConcR (KK wgBlock WgAt stA smA rd wr mk Payload Aside2 DC0 ofEvent_cell)
set_option linter.unusedVariables false
set_option linter.unusedSimpArgs false
set_option linter.unusedSectionVars false

/-- The payload's cells are ints. -/
instance : Payload := ⟨3⟩

/-- Where the memory lies, the first box (of the word) being B: B + 1 the number of variables, B + 2 the term, B + 3 THE SUMS, B + 4 the variable of the sums, B + 5 the work, B + 6 THE GROUP, B + 7 + j the number j. -/
def Wk.Lw (B j : Nat) : Nat := B + 7 + j
def Wk.Own (S : Loc → Prop) (B k : Nat) : Loc → Prop := fun l => 1 ≤ k ∧ (l = .cell ⟨B + 3, k - 1, none⟩ ∨ (k = 1 ∧ S l))
def Wk.Rd (B k : Nat) : Loc → Prop := fun l => 1 ≤ k ∧ ∃ a, l = .cell a ∧ (a.block = B ∨ a.block = B + 1 ∨ a.block = B + 2 ∨ a.block = B + 4 ∨ a.block = B + 5 ∨ a.block = B + 7 + (k - 1))

/-- Places of elder blocks. -/
def Wk.Elder (S : Loc → Prop) (B : Nat) : Prop := ∀ l, S l → ∃ a, l = .cell a ∧ a.block < B
theorem Wk.apart {S : Loc → Prop} {B : Nat} (hS : Wk.Elder S B) : Apart (ShN (B + 6)) (Wk.Own S B) (Wk.Rd B) := by
  refine ⟨fun k k' l h h' => ?_, fun k k' l h h' => ?_, fun k l h h' => ?_, fun k l h h' => ?_⟩
  · obtain ⟨h1, h | ⟨rfl, h⟩⟩ := h <;> obtain ⟨h2, h' | ⟨rfl, h'⟩⟩ := h'
    · rw [h] at h'
      simp at h'
      omega
    · obtain ⟨a, e, hb⟩ := hS _ h'
      rw [h] at e
      cases e
      simp at hb
      omega
    · obtain ⟨a, e, hb⟩ := hS _ h
      rw [h'] at e
      cases e
      simp at hb
      omega
    · rfl
  · obtain ⟨_, a, rfl, hb⟩ := h'
    obtain ⟨_, e | ⟨_, h⟩⟩ := h
    · cases e
      simp at hb
      omega
    · obtain ⟨a', e, hb'⟩ := hS _ h
      cases e
      omega
  · obtain ⟨a, rfl, hb⟩ := h'
    obtain ⟨_, e | ⟨_, h⟩⟩ := h
    · cases e
      simp at hb
    · obtain ⟨a', e, hb'⟩ := hS _ h
      cases e
      omega
  · obtain ⟨_, a, rfl, hb⟩ := h
    obtain ⟨a', e, hb'⟩ := h'
    cases e
    omega
theorem Wk.geo (B : Nat) : Geo (B + 6) (B + 3) (Wk.Lw B) := ⟨fun a b h => by simp only [Wk.Lw]; omega, by simp only [Wk.Lw]; omega, by simp only [Wk.Lw]; omega, by omega⟩

abbrev Wk.R (B n j : Nat) : World → World → Prop := RW 65 (B + 6) (B + 3) n (Wk.Lw B (j + 1)) j
abbrev Wk.D (S : Loc → Prop) (B n j : Nat) : World → World → Array Event → Prop := DWs (B + 6) (Wk.Own S B) (Wk.Rd B) (B + 3) n (j + 1)

def Wk.ptr (b : Nat) : Value := .pointer (some ⟨b, 0, none⟩)
/-- What is known to all: the boxes that nobody writes any more. -/
structure Kn (tf : FuncId) (B n m a : Nat) (w : World) : Prop where
  wv : w.cell? ⟨B, 0, none⟩ = some (.int .u64 a)
  nv : w.cell? ⟨B + 1, 0, none⟩ = some (.int .i64 m)
  tv : w.cell? ⟨B + 2, 0, none⟩ = some (.func (.func tf) #[] #[.pointer (some ⟨B, 0, none⟩)])
  sv : w.cell? ⟨B + 4, 0, none⟩ = some (.slice (some ⟨B + 3, 0, none⟩) n n)
  kv : w.cell? ⟨B + 5, 0, none⟩ = some (.func (.func 55) #[] #[.pointer (some ⟨B + 1, 0, none⟩), .pointer (some ⟨B + 2, 0, none⟩), .pointer (some ⟨B + 4, 0, none⟩)])
/-- What worker number j knows. -/
structure WK (tf : FuncId) (B n m a j : Nat) (w : World) : Prop where
  kn : Kn tf B n m a w
  jb : w.cell? ⟨B + 7 + j, 0, none⟩ = some (.int .i64 j)
  live : WgLive 65 (B + 6) w
  pay : PayAt (B + 3) n w

section
variable {S : Loc → Prop} {tf : FuncId} {B n m a j : Nat} {w w₁ : World}
theorem Kn.of (h : Kn tf B n m a w) (hb : ∀ b, b < B + 6 → b ≠ B + 3 → w₁.heap[b]? = w.heap[b]?) : Kn tf B n m a w₁ :=
  ⟨(World.cell?_of_block (hb B (by omega) (by omega))).trans h.wv, (World.cell?_of_block (hb (B + 1) (by omega) (by omega))).trans h.nv, (World.cell?_of_block (hb (B + 2) (by omega) (by omega))).trans h.tv,
   (World.cell?_of_block (hb (B + 4) (by omega) (by omega))).trans h.sv, (World.cell?_of_block (hb (B + 5) (by omega) (by omega))).trans h.kv⟩
theorem WK.rely (h : WK tf B n m a j w) (r : Wk.R B n j w w₁) : WK tf B n m a j w₁ :=
  ⟨h.kn.of fun b hb hc => r.low b (by simp only [Wk.Lw]; omega) (by omega) hc, (World.cell?_of_block (r.low (B + 7 + j) (by simp only [Wk.Lw]; omega) (by omega) (by omega))).trans h.jb, r.live h.live, r.pay h.pay⟩
theorem WK.since (h : WK tf B n m a j w) (s : Since (Wk.R B n j) w w₁) : WK tf B n m a j w₁ := s.elim (fun e => e ▸ h) fun r => h.rely r

theorem Wk.terms (S : Loc → Prop) (B n j : Nat) : Terms (Wk.R B n j) (Wk.D S B n j) :=
  ⟨fun _ _ _ h g => ⟨fun b h1 h2 h3 => (g.low b h1 h2 h3).trans (h.low b h1 h2 h3), fun x => g.live (h.live x), fun x => g.pay (h.pay x), g.cell.trans h.cell⟩, fun w => dws_none (by simp)⟩

/-- .. and since when. -/
def WS (tf : FuncId) (B n m a j : Nat) (w₀ w : World) : Prop := WK tf B n m a j w ∧ Since (Wk.R B n j) w₀ w
theorem WS.rely {w₀ : World} (h : WS tf B n m a j w₀ w) (r : Wk.R B n j w w₁) : WS tf B n m a j w₀ w₁ := ⟨h.1.rely r, h.2.rely (Wk.terms (fun _ => False) B n j) r⟩
theorem WS.since {w₀ : World} (h : WS tf B n m a j w₀ w) (s : Since (Wk.R B n j) w w₁) : WS tf B n m a j w₀ w₁ := ⟨h.1.since s, since_trans (Wk.terms (fun _ => False) B n j) h.2 s⟩

theorem WK.cellAt (h : WK tf B n m a j w) (hj : j < n) : ∃ u, w.cell? ⟨B + 3, j, none⟩ = some u ∧ w.frozen? ⟨B + 3, j, none⟩ = false := by
  obtain ⟨arr, h1, h2⟩ := h.pay
  exact ⟨arr[j]'(by omega), by simp [World.cell?, h1, h2, hj], by simp [World.frozen?, h1]⟩
/-- The write: its own cell alone turns. -/
theorem Wk.asideCell_set {C : Nat} (hp : PayAt C n w) (v : Value) : AsideCell C n j w (w.setCell ⟨C, j, none⟩ v) := by
  have hA := aside_setCell w ⟨C, j, none⟩ v
  obtain ⟨arr, h1, h2⟩ := hp
  have hb : (w.setCell ⟨C, j, none⟩ v).heap[C]? = some (.cells (arr.setIfInBounds j v) Payload.ety) := by
    rw [setCell_eq_setRow w C j arr _ (0, 0) _ h1, setRow_heap w C _ _ _ _ h1]
  refine ⟨hA.tape, hA.os, hA.output, hA.size, fun b hb' => hA.block b hb', fun _ => ⟨_, hb, by simpa using h2⟩, fun i' hi' => ?_⟩
  simp [World.cell?, hb, h1, Array.getElem?_setIfInBounds_ne (Ne.symm hi')]
theorem Wk.has_set {C : Nat} (hp : PayAt C n w) (hj : j < n) (v : Value) : Has C j v (w.setCell ⟨C, j, none⟩ v) := by
  obtain ⟨arr, h1, h2⟩ := hp
  have hb : (w.setCell ⟨C, j, none⟩ v).heap[C]? = some (.cells (arr.setIfInBounds j v) Payload.ety) := by
    rw [setCell_eq_setRow w C j arr _ (0, 0) _ h1, setRow_heap w C _ _ _ _ h1]
  simp [Has, World.cell?, hb, h2, hj]

/-- Its own cell is written. -/
def WH (tf : FuncId) (B n m a j : Nat) (v : Value) (w : World) : Prop := WK tf B n m a j w ∧ Has (B + 3) j v w
theorem WH.rely {v : Value} (h : WH tf B n m a j v w) (r : Wk.R B n j w w₁) : WH tf B n m a j v w₁ := ⟨h.1.rely r, r.cell.trans h.2⟩
theorem WK.stored (h : WK tf B n m a j w) (hj : j < n) (v : Value) : WH tf B n m a j v (w.setCell ⟨B + 3, j, none⟩ v) := by
  have hA := aside_setCell w ⟨B + 3, j, none⟩ v
  have hb : ∀ b, b ≠ B + 3 → (w.setCell ⟨B + 3, j, none⟩ v).heap[b]? = w.heap[b]? := fun b hb => hA.block b hb
  obtain ⟨st, sm, hl⟩ := h.live
  exact ⟨⟨h.kn.of fun b _ hc => hb b hc, (World.cell?_of_block (hb (B + 7 + j) (by omega))).trans h.jb, ⟨st, sm, hl.of_block (hb (B + 6) (by omega))⟩, (Wk.asideCell_set h.pay v).pay h.pay⟩, Wk.has_set h.pay hj v⟩

theorem Wk.evW_read (a : Addr) (s : Bool) (h : a.block = B ∨ a.block = B + 1 ∨ a.block = B + 2 ∨ a.block = B + 4 ∨ a.block = B + 5 ∨ a.block = B + 7 + j) : EvW (B + 6) (Wk.Own S B) (Wk.Rd B) (j + 1) ⟨.cell a, false, s⟩ := by
  refine ⟨fun fn pos => ⟨rfl, fun y hy => ?_⟩, by simp, by simp, by simp⟩
  simp only [ofEvent_cell, MemAct.touch?, Option.some.injEq] at hy
  subst hy
  exact .inr (.inr ⟨⟨by omega, a, rfl, by simpa using h⟩, rfl⟩)
theorem Wk.evW_own : EvW (B + 6) (Wk.Own S B) (Wk.Rd B) (j + 1) ⟨.cell ⟨B + 3, j, none⟩, true, false⟩ := by
  refine ⟨fun fn pos => ⟨rfl, fun y hy => ?_⟩, by simp, by simp, by simp⟩
  simp only [ofEvent_cell, MemAct.touch?, Option.some.injEq] at hy
  subst hy
  exact .inr (.inl ⟨by omega, .inl (by simp)⟩)
/-- A read of one cell of what is known. -/
theorem Wk.d_read {P : Program} {fn : FuncId} {ac : Act} {o : Oper} {b : Nat} (he : (execOp ac.eval o).events P w #[] = #[⟨.cell ⟨b, 0, none⟩, false, false⟩]) (h : b = B ∨ b = B + 1 ∨ b = B + 2 ∨ b = B + 4 ∨ b = B + 5 ∨ b = B + 7 + j) :
    Wk.D S B n j w w (listed P fn ac o w) := by
  refine ⟨AsideCell.refl _ _ _ _, fun e hm => ?_⟩
  have hm := mem_listed hm
  rw [he, Array.mem_singleton] at hm
  subst hm
  exact Wk.evW_read _ _ h
end

/-- What is asked of the function that gives the terms. -/
def TermC (tf : FuncId) (tv : Nat → Nat → Nat → Int) : Prop :=
  ∃ nt, ∀ (S : Loc → Prop) (B n m a j : Nat) (_ : (a : Int) ≤ 4294967295) (s x : Nat) (_ : (s : Int) ≤ 31) (_ : (x : Int) ≤ 31) (w : World), WK tf B n m a j w →
    CallsC Try.prog false (Wk.R B n j) (Wk.D S B n j) tf #[.int .i64 s, .int .i64 x, .pointer (some ⟨B, 0, none⟩)] nt w fun v w' => v = .int .i64 (tv a s x) ∧ Since (Wk.R B n j) w w'

set_option maxRecDepth 100000 in
theorem Wk.termS : TermC 39 spcV := by
  obtain ⟨n1, hat⟩ := Wk.at
  obtain ⟨n2, hpar⟩ := Wk.parity
  obtain ⟨n3, hsg⟩ := Wk.sign
  co_apply Exists.intro
  intro S B n m a j ha s x hs hx w hF
  have T := Wk.terms S B n j
  have hand := and64 s x (by omega) (by omega)
  have hal : (s &&& x) ≤ s := Nat.and_le_left
  have hb := bitN_lt a x
  have hp : popN (s &&& x) % 2 < 2 := Nat.mod_lt _ (by decide)
  have hxor := xor64 (bitN a x) (popN (s &&& x) % 2) (by omega) (by omega)
  rw [xor_bits hb hp] at hxor
  have hq : (bitN a x + popN (s &&& x) % 2) % 2 < 2 := Nat.mod_lt _ (by decide)
  have HP := fun w => hpar false _ _ T (s &&& x) (by omega) w
  have hfin : (1 : Int) - 2 * (((bitN a x + popN (s &&& x) % 2) % 2 : Nat) : Int) = spcV a s x := by unfold Plain.spcV; omega
  generalize popN (s &&& x) % 2 = p2 at *
  generalize hz : (bitN a x + p2) % 2 = z at *
  co_apply callsC_of_wpC Try.func39 (by rfl) rfl
  replace hF : WS _ B n m a j w w := ⟨hF, .refl w⟩
  simp only [Try.ntmps39, List.size_toArray, List.length_cons, List.length_nil, Nat.reduceAdd, Nat.reduceSub, Array.replicate_succ, Array.replicate_zero, List.push_toArray, List.append_toArray, List.nil_append, List.cons_append]
  co_stmt T WS.rely hF (co_quiet T)
  co_apply wpC_seq T
  co_reg T
  co_apply opsC_cons_k rfl (by rfl)
  intro _ hR K hK
  replace hF := hF.rely hR
  clear hR
  have h1 := hF.1.kn.wv
  go_simp
  refine hK _ _ ⟨Wk.d_read (b := B) (by simp [go_sem, *]) (by simp), ?_⟩
  clear hK K h1
  try walk_nrm
  co_op WS.rely hF (co_quiet T)
  co_apply opsC_callv T rfl (by rfl) rfl (by simp [Act.eval]) (vs := #[.int .u64 a, .int .i64 x]) (hat _ _ _ T a x ha hx _)
  rintro v w' ⟨rfl, hS⟩
  replace hF := hF.since hS
  clear hS
  try walk_nrm
  co_op WS.rely hF (co_quiet T)
  co_op WS.rely hF (co_quiet T)
  co_op WS.rely hF (co_quiet T)
  try rw [hand]
  co_apply opsC_callv T rfl (by rfl) rfl (by simp [Act.eval]) (vs := #[.int .i64 ((s &&& x : Nat) : Int)]) (HP _)
  rintro v w' ⟨rfl, hS⟩
  replace hF := hF.since hS
  clear hS
  try walk_nrm
  co_op WS.rely hF (co_quiet T)
  try rw [hxor]
  co_apply opsC_callv T rfl (by rfl) rfl (by simp [Act.eval]) (vs := #[.int .i64 (z : Int)]) (hsg _ _ _ T _ hq _)
  rintro v w' ⟨rfl, hS⟩
  replace hF := hF.since hS
  clear hS
  try walk_nrm
  co_go T WS.rely hF (co_quiet T)
  exact ⟨rfl, _, resultsC_tmp (by rfl) _, by show Value.int .i64 _ = _; first | rfl | exact val_int hfin, hF.2⟩

end Go.Proofs.Ytechkghnmgimbaa

namespace Go.Proofs.Ytechkghnmgimbaa
open Go.Conc Go.ConcN Go.RowKit Go.Conc.Lib Go.ConcR.Gen Go.ConcN.Gen Plain Go.Veiled
open Go.ConcR (KK wgBlock WgAt stA smA rd wr mk Payload Aside2 DC0 ofEvent_cell)
set_option linter.unusedVariables false
set_option linter.unusedSimpArgs false

/-- At the head of the loop: x inputs are counted. -/
def Wk.Inv (tf : FuncId) (tv : Nat → Nat → Nat → Int) (N : Int) (B n m a j : Nat) (w₀ : World) (ac : Act) (w : World) : Prop :=
  ∃ (x : Nat) (v4 v6 v7 v10 v11 v12 v13 v14 v15 v16 v17 v18 v19 v20 v21 v22 : Value), (x : Int) ≤ N ∧ WS tf B n m a j w₀ w ∧
    ac = { tmps := #[.int .i64 j, .pointer (some ⟨B + 1, 0, none⟩), .pointer (some ⟨B + 2, 0, none⟩), .pointer (some ⟨B + 4, 0, none⟩), v4, .int .i64 (sumT (tv a) j x), v6, v7, .int .i64 N, .int .i64 (x : Int), v10, v11, v12, v13, v14, v15, v16, v17, v18, v19, v20, v21, v22], defers := [] }
def Wk.Mu (N : Int) (ac : Act) (_ : World) : Nat := match ac.tmps.getD 9 undef with | .int _ x => N.toNat - x.toNat | _ => 0

set_option maxRecDepth 100000 in
set_option maxHeartbeats 1000000 in
/-- The work of number j: its own sum is written, and nothing else. -/
theorem Wk.work {tf : FuncId} {tv : Nat → Nat → Nat → Int} (ht : TermC tf tv) (h1 : ∀ a s x, tv a s x = 1 ∨ tv a s x = -1) : ∃ nw, ∀ (S : Loc → Prop) (B n m a j : Nat) (_ : (a : Int) ≤ 4294967295) (_ : m ≤ 5) (_ : n = 2 ^ m) (_ : j < n) (w : World), WK tf B n m a j w →
    CallsC Try.prog false (Wk.R B n j) (Wk.D S B n j) 55 #[.int .i64 j, .pointer (some ⟨B + 1, 0, none⟩), .pointer (some ⟨B + 2, 0, none⟩), .pointer (some ⟨B + 4, 0, none⟩)] nw w fun v w' => v = .tuple #[] ∧ WK tf B n m a j w' ∧ Has (B + 3) j (.int .i64 (sumT (tv a) j n)) w' := by
  obtain ⟨n1, hcnt⟩ := Wk.count
  obtain ⟨n2, hterm⟩ := ht
  co_apply Exists.intro
  intro S B n m a j ha hm hn hj w hF
  have T := Wk.terms S B n j
  have h32 : (2 : Nat) ^ m ≤ 32 := two_pow_le m hm
  have hlim := sumT_lim (h1 a) j
  obtain ⟨N, hN⟩ : ∃ N : Int, ((2 ^ m : Nat) : Int) = N := ⟨_, rfl⟩
  have hc := fun w => hcnt false _ _ T m hm w
  simp only [hN] at hc
  have hnN : (n : Int) = N := by omega
  have hN32 : N ≤ 32 := by omega
  have hN0 : 0 ≤ N := by omega
  clear hn hN
  co_apply callsC_of_wpC Try.func55 (by rfl) rfl
  replace hF : WS tf B n m a j w w := ⟨hF, .refl w⟩
  simp only [Try.ntmps55, List.size_toArray, List.length_cons, List.length_nil, Nat.reduceAdd, Nat.reduceSub, Array.replicate_succ, Array.replicate_zero, List.push_toArray, List.append_toArray, List.nil_append, List.cons_append]
  co_stmt T WS.rely hF (co_quiet T)
  co_apply wpC_seq T
  co_apply wpC_seq T
  co_reg T
  co_apply opsC_cons_k rfl (by rfl)
  intro _ hR K hK
  replace hF := hF.rely hR
  clear hR
  have h1 := hF.1.kn.nv
  go_simp
  refine hK _ _ ⟨Wk.d_read (b := B + 1) (by simp [go_sem, *]) (by simp), ?_⟩
  clear hK K h1
  try walk_nrm
  co_apply opsC_callv T rfl (by rfl) rfl (by simp [Act.eval]) (vs := #[.int .i64 m]) (hc _)
  rintro v w' ⟨rfl, hS⟩
  replace hF := hF.since hS
  clear hS
  try walk_nrm
  co_op WS.rely hF (co_quiet T)
  co_apply opsC_nil T
  co_then
  co_ctl T
  co_apply wpC_loop T (Wk.Inv tf tv N B n m a j w) (Wk.Mu N) _ 32
  · exact ⟨0, _, _, _, _, _, _, _, _, _, _, _, _, _, _, _, _, by omega, hF, rfl⟩
  · simp only [Wk.Mu]; go_simp
  rintro ac w1 ⟨x, v4, v6, v7, v10, v11, v12, v13, v14, v15, v16, v17, v18, v19, v20, v21, v22, hx, hF, rfl⟩
  co_stmt T WS.rely hF (co_quiet T)
  co_apply wpC_seq T
  co_split T (decide ((x : Int) < N))
  · intro hlt
    replace hlt := of_decide_eq_true hlt
    co_go T WS.rely hF (co_quiet T)
    co_apply opsC_cons_k rfl (by rfl)
    intro _ hR K hK
    replace hF := hF.rely hR
    clear hR
    have h1 := hF.1.kn.tv
    go_simp
    refine hK _ _ ⟨Wk.d_read (b := B + 2) (by simp [go_sem, *]) (by simp), ?_⟩
    clear hK K h1
    try walk_nrm
    co_op WS.rely hF (co_quiet T)
    co_op WS.rely hF (co_quiet T)
    co_apply opsC_callc T rfl (by rfl) rfl (hx := rfl) (by simp [Act.eval]) (vs := #[.int .i64 j, .int .i64 x, .pointer (some ⟨B, 0, none⟩)]) (hterm S B n m a j ha j x (by omega) (by omega) _ hF.1)
    rintro v w' ⟨rfl, hS⟩
    replace hF := hF.since hS
    clear hS
    try walk_nrm
    co_go T WS.rely hF (co_quiet T)
    have e1 : IntKind.i64.wrap (sumT (tv a) j x + tv a j x) = sumT (tv a) j (x + 1) := by
      have := hlim x
      have := hlim (x + 1)
      rw [IntKind.wrap_i64]
      show _ = sumT (tv a) j x + tv a j x
      have h2 : sumT (tv a) j (x + 1) = sumT (tv a) j x + tv a j x := rfl
      omega
    have e2 : IntKind.i64.wrap ((x : Int) + 1) = ((x + 1 : Nat) : Int) := by rw [IntKind.wrap_i64]; omega
    simp only [e1, e2]
    refine ⟨⟨x + 1, _, _, _, _, _, _, _, _, _, _, _, _, _, _, _, _, by omega, hF, rfl⟩, ?_⟩
    simp only [Wk.Mu]
    go_simp
    omega
  · intro hlt
    replace hlt := of_decide_eq_false hlt
    co_go T WS.rely hF (co_quiet T)
    co_apply opsC_cons_k rfl (by rfl)
    intro _ hR K hK
    replace hF := hF.rely hR
    clear hR
    have h1 := hF.1.kn.sv
    go_simp
    refine hK _ _ ⟨Wk.d_read (b := B + 4) (by simp [go_sem, *]) (by simp), ?_⟩
    clear hK K h1
    try walk_nrm
    co_op WS.rely hF (co_quiet T)
    co_op WS.rely hF (co_quiet T)
    have hx2 : x = n := by omega
    have hjN : (j : Int) < N := by omega
    have hj0 : (0 : Int) ≤ (j : Int) := by omega
    co_op WS.rely hF ((rw [listed_nil (by simp [go_sem, *])]; exact Terms.idle T _))
    co_apply opsC_cons_k rfl (by rfl)
    intro _ hR K hK
    replace hF := hF.rely hR
    clear hR
    obtain ⟨u, hu1, hu2⟩ := hF.1.cellAt hj
    go_simp
    refine hK _ _ ⟨⟨Wk.asideCell_set hF.1.pay _, fun e he => ?_⟩, ?_⟩
    · have hm := mem_listed he
      simp [go_sem, *] at hm
      subst hm
      exact Wk.evW_own
    have hG := hF.1.stored hj (.int .i64 (sumT (tv a) j n))
    clear hK K hu1 hu2 hF
    try walk_nrm
    co_go T WH.rely hG (co_quiet T)
    exact ⟨rfl, _, resultsC_none (by rfl) _, rfl, hG.1, hG.2⟩

end Go.Proofs.Ytechkghnmgimbaa

namespace Go.Proofs.Ytechkghnmgimbaa
open Go.Conc Go.ConcN Go.RowKit Go.Conc.Lib Go.ConcR.Gen Go.ConcN.Gen Plain Go.Veiled
open Go.ConcR (KK wgBlock WgAt stA smA rd wr mk Payload Aside2 DC0 ofEvent_cell)
set_option linter.unusedVariables false
set_option linter.unusedSimpArgs false

def Wk.b : Frame := baseD 60
noncomputable def Wk.bot : Frame := { (default : Frame) with fn := Try.prog.funcs.size, defers := [], mode := .panicking [goexitEntry] }
noncomputable def Wk.body : Code := Try.f60.body.getD .skip
/-- The call that the j-th go statement holds: the group, the work, the number. -/
def Wk.call (B j : Nat) : Deferred := { target := .fn (.func 60) #[.pointer (some ⟨B + 6, 0, none⟩), .pointer (some ⟨B + 5, 0, none⟩), .pointer (some ⟨B + 7 + j, 0, none⟩)], args := #[] }

/-- The literal's own way out, once Done has left: it only leaves. -/
theorem Wk.quitsTail (T : Array Value) : QuitsD Try.prog 2 0 (G { Wk.b.at ⟨T, []⟩ [] with mode := .returning } [Wk.bot]) := by
  refine QuitsD.ctl (g' := G Wk.bot []) rfl (fun w => ?_) ?_
  · simp [G, stepG, unwind, doReturn, results, Frame.at, Wk.b, baseD, Wk.bot, Try.func60, Try.f60, seen, GStep.after, goexitEntry]
  refine QuitsD.ctl (g' := { G Wk.bot [] with status := .finished }) rfl (fun w => ?_) ⟨rfl, rfl⟩
  simp [G, stepG, unwind, Wk.bot, goexitEntry, Frame.catches]
  rfl

theorem Wk.born_step (B j : Nat) (w : World) : stepG Try.prog false (born Try.prog (Wk.call B j)) w =
    .go (G (Wk.b.at ⟨#[.pointer (some ⟨B + 6, 0, none⟩), .pointer (some ⟨B + 5, 0, none⟩), .pointer (some ⟨B + 7 + j, 0, none⟩), undef, undef, undef], []⟩ [.code Wk.body]) [Wk.bot]) w #[] := by
  simp [born, Wk.call, stepG, unwind, callDeferred, invoke, callFunc, Try.func60, Try.f60, seen, GStep.after, G, Frame.enter, Frame.at, Wk.b, baseD, Wk.bot, Wk.body]

set_option maxRecDepth 100000 in
set_option maxHeartbeats 4000000 in
/-- ████ A WORKER's WHOLE SCRIPT. ████ -/
theorem Wk.works {S : Loc → Prop} {tf : FuncId} {tv : Nat → Nat → Nat → Int} (ht : TermC tf tv) (h1 : ∀ a s x, tv a s x = 1 ∨ tv a s x = -1) {B n m a j : Nat} {w : World} (ha : (a : Int) ≤ 4294967295) (hm : m ≤ 5) (hn : n = 2 ^ m) (hj : j < n) (hF : WK tf B n m a j w) :
    Works Try.prog 65 (B + 6) (B + 3) n (Wk.Own S B) (Wk.Rd B) (Wk.Lw B (j + 1)) (j + 1) (.int .i64 (sumT (tv a) j n)) (born Try.prog (Wk.call B j)) w := by
  obtain ⟨nw, hw⟩ := Wk.work ht h1
  refine ⟨40 + nw + 3 + 8, Goes.step rfl fun w₁ h₁ => ?_⟩
  replace hF := hF.rely h₁
  clear h₁
  rw [Wk.born_step]
  refine ⟨by u_nil, ?_⟩
  simp only [Wk.body, Try.f60, Option.getD_some]
  u_c stepG_seq WK.rely hF
  u_reg WK.rely hF
  u_defer WK.rely hF
  u_c stepG_region_end WK.rely hF
  u_reg WK.rely hF
  u_in WK.rely hF
  refine goes_oper_k rfl rfl (by k_ne) (fun K hK => ?_)
  have h2 := hF.kn.kv
  go_simp
  refine hK _ _ ⟨⟨AsideCell.refl _ _ _ _, fun e he => ?_⟩, ?_⟩
  · have hm := mem_listed he
    simp [go_sem, *] at hm
    subst hm
    exact Wk.evW_read _ _ (by simp)
  clear hK K h2
  u_in WK.rely hF
  refine goes_oper_k rfl rfl (by k_ne) (fun K hK => ?_)
  have h2 := hF.jb
  go_simp
  refine hK _ _ ⟨⟨AsideCell.refl _ _ _ _, fun e he => ?_⟩, ?_⟩
  · have hm := mem_listed he
    simp [go_sem, *] at hm
    subst hm
    exact Wk.evW_read _ _ (by simp)
  clear hK K h2
  refine Go.Veiled.Goes.callc (Wk.terms S B n j) rfl rfl (by k_ne) rfl (hx := rfl) (by simp [Act.eval]) (vs := #[.int .i64 j, .pointer (some ⟨B + 1, 0, none⟩), .pointer (some ⟨B + 2, 0, none⟩), .pointer (some ⟨B + 4, 0, none⟩)]) (hw S B n m a j ha hm hn hj _ hF) ?_
  clear hF
  rintro v w' ⟨rfl, hG⟩
  replace hG : WH tf B n m a j (.int .i64 (sumT (tv a) j n)) w' := hG
  walk_nrm
  u_c stepG_region_end WH.rely hG
  u_c stepG_end WH.rely hG
  u_in WH.rely hG
  rw [stepG_unwind_enter rfl Try.func61 (nm_done Try.link) rfl]
  simp only [goes_go]
  refine ⟨by u_nil, ?_⟩
  walk_nrmf Try.f61
  have hA := @doneN _ Try.link Try.prog Try.wgLib (Wk.Own S B) (Wk.Rd B) (B + 6) (B + 3) n (Wk.Lw B (j + 1)) (j + 1) (.int .i64 (sumT (tv a) j n))
  simp only [body_done, doneFn, Option.getD_some] at hA
  exact Go.Conc.Goes.mono (hA rfl (Wk.quitsTail _) _ ⟨hG.1.live, hG.2⟩) (by omega)

end Go.Proofs.Ytechkghnmgimbaa

namespace Go.Proofs.Ytechkghnmgimbaa
open Go.Conc Go.ConcN Go.RowKit Go.Conc.Lib Go.ConcR.Gen Go.ConcN.Gen Plain Go.Veiled
open Go.ConcR (KK wgBlock WgAt stA smA rd wr mk Payload Aside2 DC0 ofEvent_cell)
set_option linter.unusedVariables false
set_option linter.unusedSimpArgs false
set_option linter.unusedSectionVars false

theorem Wk.array14 (T : Array Value) (h : T.size = 14) : ∃ v0 v1 v2 v3 v4 v5 v6 v7 v8 v9 v10 v11 v12 v13 : Value, T = #[v0, v1, v2, v3, v4, v5, v6, v7, v8, v9, v10, v11, v12, v13] := by
  obtain ⟨l⟩ := T
  simp only [List.size_toArray] at h
  rcases l with _ | ⟨v0, l⟩
  · simp at h
  rcases l with _ | ⟨v1, l⟩
  · simp at h
  rcases l with _ | ⟨v2, l⟩
  · simp at h
  rcases l with _ | ⟨v3, l⟩
  · simp at h
  rcases l with _ | ⟨v4, l⟩
  · simp at h
  rcases l with _ | ⟨v5, l⟩
  · simp at h
  rcases l with _ | ⟨v6, l⟩
  · simp at h
  rcases l with _ | ⟨v7, l⟩
  · simp at h
  rcases l with _ | ⟨v8, l⟩
  · simp at h
  rcases l with _ | ⟨v9, l⟩
  · simp at h
  rcases l with _ | ⟨v10, l⟩
  · simp at h
  rcases l with _ | ⟨v11, l⟩
  · simp at h
  rcases l with _ | ⟨v12, l⟩
  · simp at h
  rcases l with _ | ⟨v13, l⟩
  · simp at h
  rcases l with _ | ⟨x, l⟩
  · exact ⟨v0, v1, v2, v3, v4, v5, v6, v7, v8, v9, v10, v11, v12, v13, rfl⟩
  · simp at h

/-- What the starter knows of the world, W being the world at the loop's head: j numbers are laid; s boxes made in this round. -/
structure CI (W : World) (B j s : Nat) (vi : Option Value) (w : World) : Prop where
  os : w.os = W.os
  tape : w.tape = W.tape
  output : w.output = W.output
  size : w.heap.size = B + 7 + j + s
  keep : ∀ b, b < B + 7 → b ≠ B + 3 → b ≠ B + 6 → w.heap[b]? = W.heap[b]?
  kb : ∀ i, i < j → w.heap[B + 7 + i]? = some (.cells #[.int .i64 i] 3)
  ci : ∀ v, vi = some v → w.heap[B + 7 + j]? = some (.cells #[v] 3)

section
variable {W : World} {B j s : Nat} {vi : Option Value} {w w₁ : World}
theorem CI.aside2 (h : CI W B j s vi w) (ha : Aside2 (B + 3) (B + 6) w w₁) : CI W B j s vi w₁ :=
  ⟨ha.os.trans h.os, ha.tape.trans h.tape, ha.output.trans h.output, ha.size.trans h.size, fun b h1 h2 h3 => (ha.block b h2 h3).trans (h.keep b h1 h2 h3),
   fun i hi => (ha.block _ (by omega) (by omega)).trans (h.kb i hi), fun v e => (ha.block _ (by omega) (by omega)).trans (h.ci v e)⟩
theorem ci_rely (h : CI W B j s vi w ∧ WgLive 65 (B + 6) w) (r : RC 65 (B + 6) (B + 3) w w₁) : CI W B j s vi w₁ ∧ WgLive 65 (B + 6) w₁ := ⟨h.1.aside2 r.aside, r.live h.2⟩
theorem ci2 : ∀ w w', Aside2 (B + 3) (B + 6) w w' → CI W B j s vi w → CI W B j s vi w' := fun _ _ h1 h2 => h2.aside2 h1
theorem Wk.live_low {Low : Nat} (h : WgLive 65 (B + 6) w) (hl : ∀ b, b < Low → w₁.heap[b]? = w.heap[b]?) (hL : B + 6 < Low) : WgLive 65 (B + 6) w₁ := let ⟨st, sm, x⟩ := h; ⟨st, sm, x.of_block (hl _ hL)⟩
theorem Wk.low_alloc {n : Nat} (h : w.heap.size = n + s) (o : Obj) : ∀ b, b < n → (w.alloc o).heap[b]? = w.heap[b]? := fun b hb => Below.heap_alloc _ _ _ (by omega)
theorem Wk.low_set {n : Nat} (a : Addr) (v : Value) (ha : n ≤ a.block) : ∀ b, b < n → (w.setCell a v).heap[b]? = w.heap[b]? := fun b hb => (aside_setCell w a v).block b (by omega)
theorem Wk.heap_set1 {b : Nat} {u : Value} (h : w.heap[b]? = some (.cells #[u] 3)) (v : Value) : (w.setCell ⟨b, 0, none⟩ v).heap[b]? = some (.cells #[v] 3) := by
  rw [setCell_eq_setRow w b 0 #[u] 3 (0, 0) _ h, setRow_heap w b _ _ 3 _ h]
  simp
theorem Wk.cell_of_one {b : Nat} {u : Value} (h : w.heap[b]? = some (.cells #[u] 3)) : w.cell? ⟨b, 0, none⟩ = some u ∧ w.frozen? ⟨b, 0, none⟩ = false := ⟨by simp [World.cell?, h], by simp [World.frozen?, h]⟩
theorem CI.alloc1 (h : CI W B j 0 none w) (v : Value) : CI W B j 1 (some v) (w.alloc (.cells #[v] 3)) := by
  have hs := h.size
  refine ⟨h.os, h.tape, h.output, by simp [hs], fun b h1 h2 h3 => (Below.heap_alloc _ _ _ (by omega)).trans (h.keep b h1 h2 h3), fun i hi => (Below.heap_alloc _ _ _ (by omega)).trans (h.kb i hi), fun u e => ?_⟩
  cases e
  have := heap_alloc_new w (.cells #[v] 3)
  rwa [hs] at this
theorem CI.store1 {u : Value} (h : CI W B j 1 (some u) w) (v : Value) : CI W B j 1 (some v) (w.setCell ⟨B + 7 + j, 0, none⟩ v) := by
  have hA := aside_setCell w ⟨B + 7 + j, 0, none⟩ v
  refine ⟨hA.os.trans h.os, hA.tape.trans h.tape, hA.output.trans h.output, by rw [hA.size]; exact h.size, fun b h1 h2 h3 => (hA.block b (by simp; omega)).trans (h.keep b h1 h2 h3), fun i hi => (hA.block _ (by simp; omega)).trans (h.kb i hi), fun u' e => ?_⟩
  cases e
  exact Wk.heap_set1 (h.ci u rfl) v
theorem CI.next (h : CI W B j 1 (some (.int .i64 j)) w) : CI W B (j + 1) 0 none w :=
  ⟨h.os, h.tape, h.output, by rw [h.size]; omega, h.keep, fun i hi => by
    rcases Nat.lt_succ_iff_lt_or_eq.1 hi with h' | rfl
    · exact h.kb i h'
    · exact h.ci _ rfl, fun _ e => by cases e⟩
theorem CI.kn {tf : FuncId} {n m a : Nat} (h : CI W B j s vi w) (hK : Kn tf B n m a W) : Kn tf B n m a w := hK.of fun b h1 h2 => h.keep b (by omega) h2 (by omega)
end

section
variable {S : Loc → Prop} {B j : Nat} (hS : Wk.Elder S B)
include hS
/-- The starter reads a cell that is neither the group's nor the payload's. -/
theorem Wk.ev0_rd (a : Addr) (s : Bool) (h : a.block ≠ B + 6) (h' : a.block ≠ B + 3) (h0 : B ≤ a.block) : Ev0 (B + 6) (Wk.Own S B) (Wk.Rd B) j ⟨.cell a, false, s⟩ := by
  refine ⟨fun fn pos => ⟨rfl, fun y hy => ?_⟩, by simp, by simp, by simp⟩
  simp only [ofEvent_cell, MemAct.touch?, Option.some.injEq] at hy
  subst hy
  exact .inr ⟨fun ⟨a', e, hb⟩ => by cases e; exact h hb, fun k _ _ ⟨_, e⟩ => e.elim (fun e => by cases e; exact h' rfl) fun ⟨_, e⟩ => by obtain ⟨a', e, hb⟩ := hS _ e; cases e; omega, fun e => by cases e⟩
/-- It writes a cell of a block that is still its own. -/
theorem Wk.ev0_wr (a : Addr) (s : Bool) (h : Wk.Lw B j ≤ a.block) : Ev0 (B + 6) (Wk.Own S B) (Wk.Rd B) j ⟨.cell a, true, s⟩ := by
  simp only [Wk.Lw] at h
  refine ⟨fun fn pos => ⟨rfl, fun y hy => ?_⟩, by simp, by simp, by simp⟩
  simp only [ofEvent_cell, MemAct.touch?, Option.some.injEq] at hy
  subst hy
  refine .inr ⟨fun ⟨a', e, hb⟩ => by cases e; omega, fun k _ _ ⟨_, e⟩ => e.elim (fun e => by cases e; simp at h; omega) fun ⟨_, e⟩ => by (obtain ⟨a', e, hb⟩ := hS _ e; cases e; omega), fun _ k k1 kj ⟨_, a', e, hb⟩ => ?_⟩
  cases e
  omega
end

noncomputable def Wk.body64 : Code := Try.f49.body.getD .skip
noncomputable def Wk.L64 : Code := match Wk.body64 with | .seq _ (.seq _ (.seq (.seq _ (.block _ (.loop c))) _)) => c | _ => .skip
noncomputable def Wk.R64 : Code := match Wk.body64 with | .seq _ (.seq _ (.seq _ r)) => r | _ => .skip
noncomputable def Wk.ops8 : Array Oper := match Wk.R64 with | .region _ ops _ => ops | _ => #[]
noncomputable def Wk.body47 : Code := Try.f38.body.getD .skip
noncomputable def Wk.ops2 : Array Oper := match Wk.body47 with | .seq _ (.seq _ (.seq (.region _ ops _) _)) => ops | _ => #[]
noncomputable def Wk.tail2 : Code := match Wk.body47 with | .seq _ (.seq _ (.seq _ r)) => r | _ => .skip
/-- The frame of sumsOfSets, waiting for atSameTime. -/
noncomputable def Wk.c47 (T : Array Value) : Frame := (base 38).at ⟨T, []⟩ (.inRegion Wk.ops2 (3 :: []) :: [.code Wk.tail2])
noncomputable def Wk.cW (T : Array Value) : Frame := (base 49).at ⟨T, []⟩ (.inRegion Wk.ops8 (0 :: []) :: [])

section
variable (S : Loc → Prop) (B : Nat) (W : World) (n m a : Nat) (tv : Nat → Nat → Int) (Post : Value → World → Prop) (T1 : Array Value) (c : Frame) (cs : List Frame)
/-- What the starter knows once all are started. -/
abbrev Wk.FE : World → Prop := CI W B n 0 none
def Wk.AnW (g : Goroutine) (w : World) : Prop := ∃ T : Array Value, T.size = 14 ∧ AnchWN Try.link (Wk.FE B W n) (B + 6) (Wk.cW T) (Wk.c47 T1 :: c :: cs) g w
abbrev Wk.GS (j : Nat) (Stop : Goroutine → World → Prop) (k : Nat) (g : Goroutine) (w : World) : Prop := Goes Try.prog true (RC 65 (B + 6) (B + 3)) (DP (B + 6) (Wk.Own S B) (Wk.Rd B) j (Wk.Lw B j)) Stop k g w
abbrev Wk.SP (r : Nat) : Goroutine → World → Prop := Spawns Try.prog 65 (B + 6) (B + 3) n (Wk.Own S B) (Wk.Rd B) (Wk.Lw B) (Wk.val tv n) (Fin Try.prog 65 (B + 6) (B + 3) n (Wk.Own S B) (Wk.Rd B) (Wk.Lw B) (Wk.AnW B W n T1 c cs)) r
/-- The next stop, r workers being still to be started. -/
def Wk.StopS : Nat → Goroutine → World → Prop
  | 0 => AtKd Try.prog 65 (B + 6) (B + 3) n (Wk.Own S B) (Wk.Rd B) (Wk.Lw B n) (Wk.AnW B W n T1 c cs)
  | r + 1 => AtKdS Try.prog 65 (B + 6) (B + 3) n (Wk.Own S B) (Wk.Rd B) (Wk.Lw B) (Wk.val tv n) (n - (r + 1)) (Wk.SP S B W n tv T1 c cs r)
theorem Wk.spawns_iff (r : Nat) (g : Goroutine) (w : World) : Wk.SP S B W n tv T1 c cs r g w ↔ ∃ k, Wk.GS S B (n - r) (Wk.StopS S B W n tv T1 c cs r) k g w := by cases r <;> exact Iff.rfl
/-- The anchor at the head of atSameTime's loop: j workers are started. -/
def Wk.AnchS (j : Nat) (g : Goroutine) : Prop :=
  ∃ T : Array Value, g = G ((base 49).at ⟨T, []⟩ [.code Wk.L64, .inLoop Wk.L64, .inBlock 0, .code Wk.R64]) (Wk.c47 T1 :: c :: cs) ∧ T.size = 14 ∧ T[3]? = some (.pointer (some ⟨B + 5, 0, none⟩)) ∧ T[4]? = some (.pointer (some ⟨B + 6, 0, none⟩)) ∧
    T[6]? = some (.int .i64 n) ∧ T[7]? = some (.int .i64 j)
/-- How the frames below go on once the list of sums is returned. -/
def Wk.Ends (e : Nat) : Prop := ∀ w, Wk.FE B W n w → WgLive 65 (B + 6) w →
  Wk.GS S B n (AtRet Try.prog (B + 6) (B + 3) n (Wk.Own S B) (Wk.Rd B) (Wk.vals tv n) Post) e (G (c.finish (.slice (some ⟨B + 3, 0, none⟩) n n)) cs) w
end

section
variable {S : Loc → Prop} {B : Nat} {W : World} {n m a e : Nat} {tv : Nat → Nat → Int} {Post : Value → World → Prop} {T1 : Array Value} {c : Frame} {cs : List Frame} {tf : FuncId}

set_option maxRecDepth 100000 in
/-- BACK FROM wg.Wait: TO THE RETURN of the sums' list. -/
theorem Wk.afterWait (hS : Wk.Elder S B) (hK : Kn tf B n m a W) (hE : Wk.Ends S B W n tv Post c cs e) (h1 : T1.size = 14) (h5 : T1[5]? = some (.pointer (some ⟨B + 4, 0, none⟩))) (T : Array Value) (hT : T.size = 14) (w : World) (hf : Wk.FE B W n w) (hl : WgLive 65 (B + 6) w) :
    Wk.GS S B n (AtRet Try.prog (B + 6) (B + 3) n (Wk.Own S B) (Wk.Rd B) (Wk.vals tv n) Post) (e + 11) (G ((base 49).at ((⟨T, []⟩ : Act).put ((Wk.ops8[0]?).bind (·.dst)) (.tuple #[])) (.inRegion Wk.ops8 [] :: [])) (Wk.c47 T1 :: c :: cs)) w := by
  have hF := And.intro hf hl
  obtain ⟨u0, u1, u2, u3, u4, u5, u6, u7, u8, u9, u10, u11, u12, u13, rfl⟩ := Wk.array14 T1 h1
  obtain ⟨v0, v1, v2, v3, v4, v5, v6, v7, v8, v9, v10, v11, v12, v13, rfl⟩ := Wk.array14 T hT
  simp only [List.getElem?_toArray, List.getElem?_cons_succ, List.getElem?_cons_zero, Option.some.injEq] at h5
  subst h5
  simp only [Wk.ops8, Wk.R64, Wk.body64, Try.f49, Option.getD_some, Wk.c47, Wk.ops2, Wk.tail2, Wk.body47, Try.f38]
  walk_nrm
  u_c stepG_region_end ci_rely hF
  u_c stepG_end ci_rely hF
  u_in ci_rely hF
  refine goes_leave0 rfl rfl Try.func49 rfl ⟨by u_nil, ?_⟩
  walk_nrm
  u_c stepG_region_end ci_rely hF
  u_c stepG_seq ci_rely hF
  u_reg ci_rely hF
  u_in ci_rely hF
  refine goes_oper_k rfl rfl (by decide) (fun K hK' => ?_)
  have hc := (hF.1.kn hK).sv
  go_simp
  refine hK' _ _ ⟨⟨fun _ _ => rfl, fun e he => ?_⟩, ?_⟩
  · have hm := mem_listed he
    simp [go_sem, *] at hm
    subst hm
    exact Wk.ev0_rd hS _ _ (by simp) (by simp) (by simp)
  clear hK' K hc
  u_op ci_rely hF
  u_c stepG_region_end ci_rely hF
  u_c stepG_ret' ci_rely hF
  u_in ci_rely hF
  rw [stepG_leave (v := .slice (some ⟨B + 3, 0, none⟩) n n) rfl rfl Try.func38 (by simp [results, Try.f38]) (by simp [results, Try.f38])]
  simp only [goes_go]
  refine ⟨by u_nil, ?_⟩
  exact hE _ hF.1 hF.2
end

end Go.Proofs.Ytechkghnmgimbaa

namespace Go.Proofs.Ytechkghnmgimbaa
open Go.Conc Go.ConcN Go.RowKit Go.Conc.Lib Go.ConcR.Gen Go.ConcN.Gen Plain Go.Veiled
open Go.ConcR (KK wgBlock WgAt stA smA rd wr mk Payload Aside2 DC0 ofEvent_cell)
set_option linter.unusedVariables false
set_option linter.unusedSimpArgs false
set_option linter.unusedSectionVars false
@[local go_sem] theorem Wk.run_makeFunc (P : Program) (fn : Fn) (first cap : Array Value) (w : World) : (Instr.makeFunc fn first cap).run P w = .ok (.func fn first cap) w := rfl
@[local go_sem] theorem Wk.events_makeFunc (P : Program) (fn : Fn) (first cap : Array Value) (w : World) (es : Array Event) : (Instr.makeFunc fn first cap).events P w es = es := rfl
theorem Wk.loud64 : (Try.prog.funcs[(base 49).fn]?).any (·.norace) = false := by kernel_rfl

section
variable {main : Bool} {b : Frame} {a : Act} {kk : List Item} {cs : List Frame} {w : World} {ops : Array Oper} {i : Nat} {rest : List Nat} {o : Oper}
/-- A plain store of an int, as one step. -/
theorem Wk.stepG_store {x y : Operand} (ho : ops[i]? = some o) (hw : Region.wanted o (yielded ops a.tmps) = true) (hk : b.kind ≠ .early) (hop : o.op = .store 3 x y)
    {ad : Addr} {v : Int} {u : Value} (hx : a.eval x = .pointer (some ad)) (hy : a.eval y = .int .i64 v) (hc : w.cell? ad = some u) (hz : w.frozen? ad = false) (hq : (Try.prog.funcs[b.fn]?).any (·.norace) = false) :
    stepG Try.prog main (G (b.at a (.inRegion ops (i :: rest) :: kk)) cs) w = .go (G (b.at (a.put o.dst undef) (.inRegion ops rest :: kk)) cs) (w.setCell ad (.int .i64 v)) #[⟨.cell ad, true, false⟩] := by
  have hr : (execOp a.eval o).run Try.prog w = .ok .skip (w.setCell ad (.int .i64 v)) := by
    unfold execOp
    simp only [hop, hx, hy]
    simp [go_sem, stored, hc, hz]
  have he : (execOp a.eval o).events Try.prog w #[] = #[⟨.cell ad, true, false⟩] := by
    unfold execOp
    simp only [hop, hx, hy]
    simp [go_sem, storedEv, hc, hz]
  rw [stepG_none ho hw hk hr]
  unfold listed
  rw [he, seen_eq hq (by simp)]
end

section
variable {S : Loc → Prop} {B : Nat} {W : World} {n m a e : Nat} {tv : Nat → Nat → Nat → Int} {Post : Value → World → Prop} {T1 : Array Value} {c : Frame} {cs : List Frame} {tf : FuncId}

set_option maxRecDepth 100000 in
/-- FROM THE HEAD OF Wait's LOOP. -/
theorem Wk.anW_round (hS : Wk.Elder S B) (hK : Kn tf B n m a W) (hE : Wk.Ends S B W n (tv a) Post c cs e) (h1 : T1.size = 14) (h5 : T1[5]? = some (.pointer (some ⟨B + 4, 0, none⟩))) (g : Goroutine) (w : World) (h : Wk.AnW B W n T1 c cs g w) :
    ∃ k, Wk.GS S B n (AtW1 Try.prog 65 (B + 6) (B + 3) n (Wk.Own S B) (Wk.Rd B) (Wk.Lw B n) (Wk.vals (tv a) n) (Wk.AnW B W n T1 c cs) Post) k g w := by
  obtain ⟨T, hT, hA⟩ := h
  obtain ⟨k, hk⟩ := waitRoundN (L := Try.link) (P := Try.prog) Try.wgLib (C := B + 3) (n := n) (Low := Wk.Lw B n) (Own := Wk.Own S B) (Rd := Wk.Rd B) (vals := Wk.vals (tv a) n) (Post := Post) (b₀ := base 49) (a₀ := ⟨T, []⟩) (ops₀ := Wk.ops8) (i₀ := 0) (rest₀ := []) (k₀ := []) (cs := Wk.c47 T1 :: c :: cs) (mT := e + 11) ci2 (Wk.afterWait hS hK hE h1 h5 T hT) g w hA
  exact ⟨k, goes_mono (fun _ _ y => AtW1.mono (fun _ _ z => ⟨T, hT, z⟩) y) hk⟩

set_option maxRecDepth 100000 in
set_option maxHeartbeats 8000000 in
/-- ████ THE LOOP THAT STARTS THE WORKERS: j started, r to start. ████ -/
theorem Wk.spawnsFrom (hS : Wk.Elder S B) (ht : TermC tf tv) (ho : ∀ a s x, tv a s x = 1 ∨ tv a s x = -1) (ha : (a : Int) ≤ 4294967295) (hm : m ≤ 5) (hn : n = 2 ^ m) (hK : Kn tf B n m a W) : ∀ (r j : Nat), j + r = n →
    ∃ f, ∀ (g : Goroutine) (w : World), Wk.AnchS B n T1 c cs j g → CI W B j 0 none w ∧ WgLive 65 (B + 6) w → Wk.GS S B j (Wk.StopS S B W n (tv a) T1 c cs r) f g w := by
  have HN := Lib.hid hn
  clear hn
  intro r
  induction r with
  | zero =>
    intro j hj
    obtain rfl : j = n := by omega
    refine ⟨9 + 1 + 3, ?_⟩
    rintro g w ⟨T, rfl, hT, t3, t4, t6, t7⟩ hF
    obtain ⟨v0, v1, v2, v3, v4, v5, v6, v7, v8, v9, v10, v11, v12, v13, rfl⟩ := Wk.array14 T hT
    simp only [List.getElem?_toArray, List.getElem?_cons_succ, List.getElem?_cons_zero, Option.some.injEq] at t3 t4 t6 t7
    subst t3 t4 t6 t7
    have hA := fun (a₀ : Act) (ops₀ : Array Oper) (i₀ : Nat) (rest₀ : List Nat) (k₀ : List Item) => waitStartN (L := Try.link) (P := Try.prog) (Wg := B + 6) (C := B + 3) (n := j) (Low := Wk.Lw B j) (Own := Wk.Own S B) (Rd := Wk.Rd B) (F := Wk.FE B W j) (b₀ := base 49) (a₀ := a₀) (ops₀ := ops₀) (i₀ := i₀) (rest₀ := rest₀) (k₀ := k₀) (cs := Wk.c47 T1 :: c :: cs) Try.wgLib ci2
    simp only [Wk.StopS, Wk.L64, Wk.R64, Wk.body64, body_wait, Try.f49, waitFn, Option.getD_some] at hA ⊢
    have hnl : ¬ ((j : Int) < (j : Int)) := by omega
    u_c stepG_seq ci_rely hF
    u_reg ci_rely hF
    u_op ci_rely hF
    u_c stepG_region_end ci_rely hF
    u_c stepG_seq ci_rely hF
    u_cond false ci_rely hF
    u_exit ci_rely hF
    u_reg ci_rely hF
    u_in ci_rely hF
    refine goes_call rfl rfl (by decide) rfl Try.func62 (nm_wait Try.link) rfl ⟨by u_nil, ?_⟩
    walk_nrmf Try.f62
    refine Go.Conc.Goes.mono (goes_mono (fun _ _ y => AtKd.mono (fun _ _ z => ⟨_, ?_, z⟩) y) (hA _ _ _ _ _ _ hF)) (by omega)
    simp
  | succ r ih =>
    intro j hj
    obtain ⟨f₁, h₁⟩ := ih (j + 1) (by omega)
    refine ⟨21 + 1 + 12, ?_⟩
    rintro g w ⟨T, rfl, hT, t3, t4, t6, t7⟩ hF
    obtain ⟨v0, v1, v2, v3, v4, v5, v6, v7, v8, v9, v10, v11, v12, v13, rfl⟩ := Wk.array14 T hT
    simp only [List.getElem?_toArray, List.getElem?_cons_succ, List.getElem?_cons_zero, Option.some.injEq] at t3 t4 t6 t7
    subst t3 t4 t6 t7
    have ej : n - (r + 1) = j := by omega
    have hjn : j < n := by omega
    have hlt : (j : Int) < (n : Int) := by omega
    have hj0 : (0 : Int) ≤ (j : Int) := by omega
    obtain ⟨L, hL⟩ : ∃ L, B + 7 + j = L := ⟨_, rfl⟩
    have hLw : Wk.Lw B j = L := by rw [← hL]; rfl
    have hA := fun (b₀ : Frame) (a₀ : Act) (ops₀ : Array Oper) (i₀ : Nat) (rest₀ : List Nat) (k₀ : List Item) (cs' : List Frame) (mT : Nat) => addPosN (L := Try.link) (P := Try.prog) (Wg := B + 6) (C := B + 3) (n := n) (Own := Wk.Own S B) (Rd := Wk.Rd B) (Lw := Wk.Lw B) (val := Wk.val (tv a) n) (j := j) (Next := Wk.SP S B W n (tv a) T1 c cs r) (F := CI W B j 1 (some (.int .i64 j))) (b₀ := b₀) (a₀ := a₀) (ops₀ := ops₀) (i₀ := i₀) (rest₀ := rest₀) (k₀ := k₀) (cs := cs') (mT := mT) Try.wgLib ci2
    simp only [Wk.StopS, ej, Wk.L64, Wk.R64, Wk.body64, body_add, Try.f49, addFn, Option.getD_some] at hA ⊢
    u_c stepG_seq ci_rely hF
    u_reg ci_rely hF
    u_op ci_rely hF
    u_c stepG_region_end ci_rely hF
    u_c stepG_seq ci_rely hF
    u_cond true ci_rely hF
    u_c stepG_skip ci_rely hF
    u_c stepG_seq ci_rely hF
    u_c stepG_block ci_rely hF
    u_c stepG_seq ci_rely hF
    u_reg ci_rely hF
    u_op ci_rely hF
    -- this number's box is made
    u_in ci_rely hF
    refine goes_oper_k rfl rfl (by decide) (fun K hK' => ?_)
    have hsz := hF.1.size
    rw [hL] at hsz
    go_simp
    refine hK' _ _ ⟨⟨fun b hb => Wk.low_alloc hsz _ b (by rw [hLw] at hb; exact hb), fun e he => ?_⟩, ?_⟩
    · have hm := mem_listed he
      simp [go_sem, *] at hm
    clear hK' K
    replace hF := And.intro (hF.1.alloc1 (.int .i64 0)) (Wk.live_low hF.2 (Wk.low_alloc hsz (.cells #[.int .i64 0] 3)) (by omega))
    rw [show L + 0 = L from rfl] at hsz
    try rw [hsz]
    clear hsz
    -- .. and written
    u_in ci_rely hF
    obtain ⟨hu1, hu2⟩ := Wk.cell_of_one (hF.1.ci _ rfl)
    rw [hL] at hu1 hu2
    rw [Wk.stepG_store rfl rfl (by decide) rfl rfl rfl hu1 hu2 Wk.loud64]
    simp only [goes_go]
    refine ⟨⟨fun b hb => Wk.low_set ⟨L, 0, none⟩ _ (Nat.le_refl L) b (by rw [hLw] at hb; exact hb), fun e he => ?_⟩, ?_⟩
    · rw [Array.mem_singleton] at he
      subst he
      exact Wk.ev0_wr hS _ _ (by rw [hLw]; exact Nat.le_refl L)
    have hst := hF.1.store1 (.int .i64 j)
    rw [hL] at hst
    replace hF := And.intro hst (Wk.live_low hF.2 (Wk.low_set ⟨L, 0, none⟩ (.int .i64 j) (Nat.le_refl L)) (by omega))
    clear hu1 hu2 hst
    walk_nrm
    u_c stepG_region_end ci_rely hF
    u_c stepG_seq ci_rely hF
    u_reg ci_rely hF
    -- wg.Add(1), IN COMPANY
    u_in ci_rely hF
    refine goes_call rfl rfl (by decide) rfl Try.func59 (nm_add Try.link) rfl ⟨by u_nil, ?_⟩
    walk_nrmf Try.f59
    refine Go.Conc.Goes.mono (hA _ _ _ _ _ _ _ 8 ?_ _ hF) (by omega)
    clear hA hF
    intro w' h1 h2
    have hF := And.intro h1 h2
    clear h1 h2
    walk_nrm
    u_c stepG_region_end ci_rely hF
    u_reg ci_rely hF
    u_op ci_rely hF
    -- THE go STATEMENT
    refine Goes.stop (fun w₂ r₂ => ?_)
    replace hF := ci_rely hF r₂
    clear r₂
    subst hL
    have hib := (Wk.cell_of_one (hF.1.ci _ rfl)).1
    refine ⟨rfl, ?_⟩
    rw [stepG_spawn (d := Wk.call B j) (w' := w₂) (f := .func 60) (c := #[.pointer (some ⟨B + 6, 0, none⟩), .pointer (some ⟨B + 5, 0, none⟩), .pointer (some ⟨B + 7 + j, 0, none⟩)]) rfl rfl (by decide) (by simp [go_sem, Wk.call, Deferred.ofValue]) rfl]
    generalize hL : listed _ _ _ _ _ = Lx
    have hLx : Lx = #[] := by
      rw [← hL]
      simp [listed, go_sem, seen, Deferred.ofValue]
      rfl
    subst hLx
    clear hL
    refine ⟨_, _, rfl, rfl, fun hpay => Wk.works ht ho ha hm HN.out hjn ⟨hF.1.kn hK, hib, hF.2, hpay⟩, ?_⟩
    -- ON TO THE LOOP's HEAD
    refine (Wk.spawns_iff S B W n (tv a) T1 c cs r _ _).2 ⟨f₁ + 7, ?_⟩
    have e6 : n - r = j + 1 := by omega
    rw [e6]
    replace hF : CI W B (j + 1) 0 none w₂ ∧ WgLive 65 (B + 6) w₂ := ⟨hF.1.next, hF.2⟩
    clear hib
    have hwr : IntKind.i64.wrap ((j : Int) + 1) = ((j + 1 : Nat) : Int) := by have := two_pow_le m hm; have := HN.out; rw [IntKind.wrap_i64]; omega
    walk_nrm
    u_c stepG_region_end ci_rely hF
    u_c stepG_inBlock ci_rely hF
    u_reg ci_rely hF
    u_op ci_rely hF
    u_op ci_rely hF
    u_c stepG_region_end ci_rely hF
    u_c stepG_inLoop ci_rely hF
    exact h₁ _ _ ⟨_, rfl, by simp, by simp, by simp, by simp, by simp⟩ hF
end

end Go.Proofs.Ytechkghnmgimbaa

namespace Go.Proofs.Ytechkghnmgimbaa
open Go.Conc Go.ConcN Go.RowKit Go.Conc.Lib Go.ConcR.Gen Go.ConcN.Gen Plain Go.Veiled
open Go.ConcR (KK wgBlock WgAt stA smA rd wr mk Payload Aside2 DC0 ofEvent_cell)
set_option linter.unusedVariables false
set_option linter.unusedSimpArgs false
set_option linter.unusedSectionVars false
attribute [local go_sem] Wk.run_makeFunc Wk.events_makeFunc

section
variable {S : Loc → Prop} {W : World} {B s : Nat} {vi : Option Value} {w w₁ : World}
theorem CI.aside9 (h : CI W B 0 s vi w) (ha : Aside2 (B + 9) (B + 6) w w₁) : CI W B 0 s vi w₁ :=
  ⟨ha.os.trans h.os, ha.tape.trans h.tape, ha.output.trans h.output, ha.size.trans h.size, fun b h1 h2 h3 => (ha.block b (by omega) h3).trans (h.keep b h1 h2 h3),
   fun i hi => by omega, fun v e => (ha.block _ (by omega) (by omega)).trans (h.ci v e)⟩
theorem ci9_rely (h : CI W B 0 s vi w ∧ WgLive 65 (B + 6) w) (r : RC 65 (B + 6) (B + 9) w w₁) : CI W B 0 s vi w₁ ∧ WgLive 65 (B + 6) w₁ := ⟨h.1.aside9 r.aside, r.live h.2⟩
theorem ci92 : ∀ w w', Aside2 (B + 9) (B + 6) w w' → CI W B 0 s vi w → CI W B 0 s vi w' := fun _ _ h1 h2 => h2.aside9 h1
theorem Wk.ev9_wr (hS : Wk.Elder S B) (a : Addr) (s : Bool) (h : a.block = B + 7) : Ev0 (B + 6) (fun _ l => S l) (fun _ _ => False) 1 ⟨.cell a, true, s⟩ := by
  refine ⟨fun fn pos => ⟨rfl, fun y hy => ?_⟩, by simp, by simp, by simp⟩
  simp only [ofEvent_cell, MemAct.touch?, Option.some.injEq] at hy
  subst hy
  refine .inr ⟨fun ⟨a', e, hb⟩ => by cases e; omega, fun k _ _ e => by obtain ⟨a', e, hb⟩ := hS _ e; cases e; omega, fun _ k _ _ h => h⟩
end

section
variable {S : Loc → Prop} {B : Nat} {W : World} {n m a e : Nat} {tv : Nat → Nat → Nat → Int} {Post : Value → World → Prop} {T1 : Array Value} {c : Frame} {cs : List Frame} {tf : FuncId}
set_option maxRecDepth 100000 in
set_option maxHeartbeats 8000000 in
/-- Alone, to the first go statement. -/
theorem Wk.first (hS : Wk.Elder S B) (hn1 : 1 ≤ n) (g : Goroutine) (w : World) (hA0 : Wk.AnchS B n T1 c cs 0 g) (hF : CI W B 0 0 none w ∧ WgLive 65 (B + 6) w) :
    Goes Try.prog true (RC 65 (B + 6) (B + 9)) (DP (B + 6) (fun _ l => S l) (fun _ _ => False) 1 (B + 7)) (AtKdS Try.prog 65 (B + 6) (B + 9) n (fun _ l => S l) (fun _ _ => False) (fun _ => B + 7) (fun _ => undef) 1 (fun _ _ => True)) 34 g w := by
  obtain ⟨T, rfl, hT, t3, t4, t6, t7⟩ := hA0
  obtain ⟨v0, v1, v2, v3, v4, v5, v6, v7, v8, v9, v10, v11, v12, v13, rfl⟩ := Wk.array14 T hT
  simp only [List.getElem?_toArray, List.getElem?_cons_succ, List.getElem?_cons_zero, Option.some.injEq] at t3 t4 t6 t7
  subst t3 t4 t6 t7
  have hlt : ((0 : Nat) : Int) < (n : Int) := by omega
  have hn0 : 0 < n := hn1
  obtain ⟨L, hL⟩ : ∃ L, B + 7 + 0 = L := ⟨_, rfl⟩
  have hA := fun (b₀ : Frame) (a₀ : Act) (ops₀ : Array Oper) (i₀ : Nat) (rest₀ : List Nat) (k₀ : List Item) (cs' : List Frame) (mT : Nat) => addPosN (L := Try.link) (P := Try.prog) (Wg := B + 6) (C := B + 9) (n := n) (Own := fun _ l => S l) (Rd := fun _ _ => False) (Lw := fun _ => B + 7) (val := fun _ => undef) (j := 1) (Next := fun _ _ => True) (F := CI W B 0 1 (some (.int .i64 (0 : Nat)))) (b₀ := b₀) (a₀ := a₀) (ops₀ := ops₀) (i₀ := i₀) (rest₀ := rest₀) (k₀ := k₀) (cs := cs') (mT := mT) Try.wgLib ci92
  simp only [Wk.L64, Wk.R64, Wk.body64, body_add, Try.f49, addFn, Option.getD_some] at hA ⊢
  u_c stepG_seq ci9_rely hF
  u_reg ci9_rely hF
  u_op ci9_rely hF
  u_c stepG_region_end ci9_rely hF
  u_c stepG_seq ci9_rely hF
  u_cond true ci9_rely hF
  u_c stepG_skip ci9_rely hF
  u_c stepG_seq ci9_rely hF
  u_c stepG_block ci9_rely hF
  u_c stepG_seq ci9_rely hF
  u_reg ci9_rely hF
  u_op ci9_rely hF
  u_in ci9_rely hF
  refine goes_oper_k rfl rfl (by decide) (fun K hK' => ?_)
  have hsz := hF.1.size
  rw [hL] at hsz
  go_simp
  refine hK' _ _ ⟨⟨fun b hb => Wk.low_alloc (n := L) (s := 0) hsz _ b (by omega), fun e he => ?_⟩, ?_⟩
  · have hm := mem_listed he
    simp [go_sem, *] at hm
  clear hK' K
  replace hF := And.intro (hF.1.alloc1 (.int .i64 0)) (Wk.live_low hF.2 (Wk.low_alloc (n := L) (s := 0) hsz (.cells #[.int .i64 0] 3)) (by omega))
  try rw [hsz]
  clear hsz
  u_in ci9_rely hF
  obtain ⟨hu1, hu2⟩ := Wk.cell_of_one (hF.1.ci _ rfl)
  rw [hL] at hu1 hu2
  rw [Wk.stepG_store rfl rfl (by decide) rfl rfl rfl hu1 hu2 Wk.loud64]
  simp only [goes_go]
  refine ⟨⟨fun b hb => Wk.low_set (n := L) ⟨L, 0, none⟩ _ (Nat.le_refl L) b (by omega), fun e he => ?_⟩, ?_⟩
  · rw [Array.mem_singleton] at he
    subst he
    exact Wk.ev9_wr hS _ _ (by show L = B + 7; omega)
  have hst := hF.1.store1 (.int .i64 (0 : Nat))
  rw [hL] at hst
  replace hF := And.intro hst (Wk.live_low hF.2 (Wk.low_set (n := L) ⟨L, 0, none⟩ (.int .i64 (0 : Nat)) (Nat.le_refl L)) (by omega))
  clear hu1 hu2 hst
  walk_nrm
  u_c stepG_region_end ci9_rely hF
  u_c stepG_seq ci9_rely hF
  u_reg ci9_rely hF
  u_in ci9_rely hF
  refine goes_call rfl rfl (by decide) rfl Try.func59 (nm_add Try.link) rfl ⟨by u_nil, ?_⟩
  walk_nrmf Try.f59
  refine Go.Conc.Goes.mono (hA _ _ _ _ _ _ _ 8 ?_ _ hF) (by omega)
  clear hA hF
  intro w' h1 h2
  have hF := And.intro h1 h2
  clear h1 h2
  walk_nrm
  u_c stepG_region_end ci9_rely hF
  u_reg ci9_rely hF
  u_op ci9_rely hF
  refine Goes.stop (fun w₂ r₂ => ?_)
  replace hF := ci9_rely hF r₂
  clear r₂
  subst hL
  refine ⟨rfl, ?_⟩
  rw [stepG_spawn (d := Wk.call B 0) (w' := w₂) (f := .func 60) (c := #[.pointer (some ⟨B + 6, 0, none⟩), .pointer (some ⟨B + 5, 0, none⟩), .pointer (some ⟨B + 7 + 0, 0, none⟩)]) rfl rfl (by decide) (by simp [go_sem, Wk.call, Deferred.ofValue]) rfl]
  generalize hL : listed _ _ _ _ _ = Lx
  have hLx : Lx = #[] := by
    rw [← hL]
    simp [listed, go_sem, seen, Deferred.ofValue]
    rfl
  subst hLx
  clear hL
  refine ⟨_, _, rfl, rfl, fun hpay => ?_, trivial⟩
  obtain ⟨arr, h1, _⟩ := hpay
  rw [Array.getElem?_eq_none (by have := hF.1.size; omega)] at h1
  cases h1

end

end Go.Proofs.Ytechkghnmgimbaa
