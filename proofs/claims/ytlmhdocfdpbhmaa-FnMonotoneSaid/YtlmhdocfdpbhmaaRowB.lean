/-
  Rows of ints that a call made itself; lists of ints that can be read; the laws' functions on lists of ints.
  The laws' functions on lists of ints: compared, marked, held, copied.
  The laws' copy of a list of ints.
  Lists of ints appended to rows of the call's own, inside a region that draws its order.
-/
import Derived.Test.YtlmhdocfdpbhmaaTabA
import Derived.OneCell
import Derived.BigQuiet
import Derived.Deep.QuietTactic
import Derived.Laws.OwnMore
import Derived.Laws.AppendOwn
import Derived.Deep.DeepMust
import Derived.Deep.RegionLaw

namespace Go.Proofs.Ytlmhdocfdpbhmaa
open Go.RowKit Plain
set_option linter.unusedVariables false

theorem Try.infoInt : (Try.prog.info? 3).map (fun i => (i.zero, i.size, i.bytes)) = some (some (.int .i64 0), 1, 8) := by kernel_rfl

def intsV (l : List Int) : List Value := l.map (fun x => Value.int .i64 x)
def IntRow (w : World) (B : Nat) (v : Value) (l : List Int) : Prop := w.ownsRow B 3 1 v l.length (intsV l)
theorem intsV_snoc (l : List Int) (x : Int) : intsV (l ++ [x]) = intsV l ++ [.int .i64 x] := by simp [intsV]

theorem grownNone {w w' : World} (hb : Below w.heap.size w w') : w.grownBy w' none := ⟨hb.os, hb.tape, hb.output, hb.size, fun i hi _ => hb.block i hi⟩
theorem IntRow.kept {w w' : World} {B : Nat} {v : Value} {l : List Int} {row : Option Nat} (h : IntRow w B v l) (hg : w.grownBy w' row) (hne : v.ownBlock = none ∨ v.ownBlock ≠ row) : IntRow w' B v l := World.ownsRow.kept h hg hne
theorem IntRow.below {w w' : World} {B : Nat} {v : Value} {l : List Int} (h : IntRow w B v l) (hb : Below w.heap.size w w') : IntRow w' B v l :=
  World.ownsRow.kept h (grownNone hb) (by cases hv : v.ownBlock <;> simp)
theorem IntRow.lt {w : World} {B : Nat} {v : Value} {l : List Int} (h : IntRow w B v l) : ∀ k, v.ownBlock = some k → B ≤ k ∧ k < w.heap.size := World.ownsRow.lt h
theorem IntRow.alloc {w : World} {B : Nat} {v : Value} {l : List Int} (h : IntRow w B v l) (o : Obj) : IntRow (w.alloc o) B v l := World.ownsRow.alloc h o
theorem IntRow.base {w : World} {B C : Nat} {v : Value} {l : List Int} (h : IntRow w B v l) (hC : C ≤ B) : IntRow w C v l := by
  refine ⟨h.1, ?_⟩
  rcases h.2 with hn | ⟨g, cap, cur, rfl, hb, rest⟩
  · exact .inl hn
  · exact .inr ⟨g, cap, cur, rfl, by omega, rest⟩
theorem IntRow.shape {w : World} {B : Nat} {v : Value} {l : List Int} (h : IntRow w B v l) : (v = .slice none 0 0 ∧ l = []) ∨ ∃ g cap, v = .slice (some ⟨g, 0, none⟩) l.length cap ∧ B ≤ g ∧ g < w.heap.size := by
  rcases h.2 with ⟨rfl, hn⟩ | ⟨g, cap, cur, rfl, hb, hg, _⟩
  · exact .inl ⟨rfl, List.eq_nil_of_length_eq_zero hn⟩
  · exact .inr ⟨g, cap, rfl, hb, (Array.getElem?_eq_some_iff.1 hg).1⟩
theorem IntRow.cell {w : World} {B g cap : Nat} {l : List Int} (h : IntRow w B (.slice (some ⟨g, 0, none⟩) l.length cap) l) (j : Nat) (hj : j < l.length) :
    w.cell? ⟨g, j, none⟩ = some (.int .i64 (l.getD j 0)) := by
  unfold IntRow at h
  rw [World.ownsRow.cellAt h j (by omega)]
  simp [intsV, hj]
theorem IntRow.free {w : World} {B g cap : Nat} {l : List Int} (h : IntRow w B (.slice (some ⟨g, 0, none⟩) l.length cap) l) (j : Nat) : w.frozen? ⟨g, j, none⟩ = false := by
  unfold IntRow at h
  exact World.ownsRow.frozenAt h j
theorem IntRow.store {w : World} {B g cap n : Nat} {l : List Int} (h : IntRow w B (.slice (some ⟨g, 0, none⟩) n cap) l) (hn : l.length = n) (j : Nat) (x : Int) :
    IntRow (w.setCell ⟨g, j, none⟩ (.int .i64 x)) B (.slice (some ⟨g, 0, none⟩) n cap) (l.set j x) ∧ w.grownBy (w.setCell ⟨g, j, none⟩ (.int .i64 x)) (some g) := by
  unfold IntRow at h ⊢
  rw [hn] at h
  have h2 := World.ownsRow.stored h j (.int .i64 x)
  rw [List.length_set, hn]
  have e : intsV (l.set j x) = (intsV l).set j (.int .i64 x) := by simp [intsV, List.map_set]
  rw [e]
  exact h2

/-- One int is appended to a row of ints of the call's own. -/
theorem wp_int {ops : Array Oper} {rest : List Oper} {o : Oper} {a : Act} {Q : Exit → Act → World → Prop} (hgd : o.guard = none) (s x : Operand)
    (ho : o.op = .call { callee := .builtin .append, args := #[s, x], argTypes := #[36, 36] })
    (B : Nat) (w wr : World) (v : Value) (l : List Int) (c : Int) (ob : Obj) (hown : IntRow wr B v l) (hb : Below B w wr) (hB : B ≤ wr.heap.size) (hlen : l.length ≤ 10000000)
    (hs : a.eval s = v) (hx : a.eval x = .slice (some ⟨wr.heap.size, 0, none⟩) 1 1) (hob : ob = .cells #[.int .i64 c] 3)
    (h : ∀ v' w1, IntRow w1 B v' (l ++ [c]) → Below B w w1 → wr.grownBy w1 v.ownBlock → wpList Try.prog ops Q rest (a.put o.dst v') w1) :
    wpList Try.prog ops Q (o :: rest) a (wr.alloc ob) := by
  subst hob
  obtain ⟨i0, hi, hz0, hz1, hz2⟩ := info_parts Try.infoInt
  refine wpList_append_own _ hgd s x 36 ho B 3 i0 (.int .i64 0) 1 8 Try.underlying36 hi hz0 hz1 hz2 rfl (by decide) v l.length (intsV l) hs (World.ownsRow.alloc hown _) ⟨wr.heap.size, 0, none⟩ 1 1 [.int .i64 c] hx rfl ?_ ?_ ?_ ?_ ?_ ?_
  · intro j u hj
    match j, hj with
    | 0, hj =>
      simp at hj
      subst hj
      exact World.cell?_alloc_mark wr _ _ _ 0
    | j + 1, hj => simp at hj
  · intro u hu; simp at hu; subst hu; rfl
  · unfold maxLen; omega
  · omega
  · simp; omega
  · intro v' w1 h1 h2 _
    refine h v' w1 ?_ ((hb.alloc hB _).grown h2 (by simp; omega) (fun j hj => (World.ownsRow.lt hown j hj).1)) ?_
    · unfold IntRow
      rw [intsV_snoc, List.length_append, List.length_singleton]
      exact h1
    · refine ⟨h2.os.trans rfl, h2.tape.trans rfl, h2.output.trans rfl, by have := h2.size; simp at this; omega, fun i hi hne => ?_⟩
      rw [h2.block i (by simp; omega) hne, Below.heap_alloc wr _ i hi]

/-- A list of ints that can be read. -/
def IntsIn (w : World) (v : Value) (l : List Int) : Prop :=
  ∃ a cap, v = .slice a l.length cap ∧ (l.length : Int) ≤ 2000000 ∧ (∀ x ∈ l, -9223372036854775808 ≤ x ∧ x ≤ 9223372036854775807) ∧
    (0 < l.length → ∃ b off, a = some ⟨b, off, none⟩ ∧ b < w.heap.size ∧ ∀ j, j < l.length → w.cell? ⟨b, off + j, none⟩ = some (.int .i64 (l.getD j 0)))
theorem IntsIn.below {w w' : World} {v : Value} {l : List Int} (h : IntsIn w v l) (hb : Below w.heap.size w w') : IntsIn w' v l := by
  obtain ⟨a, cap, rfl, h1, h2, h3⟩ := h
  refine ⟨a, cap, rfl, h1, h2, fun h0 => ?_⟩
  obtain ⟨b, off, rfl, hlt, hc⟩ := h3 h0
  exact ⟨b, off, rfl, Nat.lt_of_lt_of_le hlt hb.size, fun j hj => (hb.cell (p := ⟨b, off + j, none⟩) hlt).trans (hc j hj)⟩
theorem IntRow.ints {w : World} {B : Nat} {v : Value} {l : List Int} (h : IntRow w B v l) (hl : l.length ≤ 2000000) (hx : ∀ x ∈ l, -9223372036854775808 ≤ x ∧ x ≤ 9223372036854775807) : IntsIn w v l := by
  rcases h.shape with ⟨rfl, rfl⟩ | ⟨g, cap, rfl, hB, hg⟩
  · exact ⟨none, 0, rfl, by decide, hx, fun h => absurd h (by decide)⟩
  · exact ⟨_, cap, rfl, by omega, hx, fun h0 => ⟨g, 0, rfl, hg, fun j hj => by rw [Nat.zero_add]; exact h.cell j hj⟩⟩
theorem getD_mem {l : List Int} {j : Nat} (h : j < l.length) : l.getD j 0 ∈ l := by
  rw [List.getD_eq_getElem?_getD, List.getElem?_eq_getElem h]; exact List.getElem_mem h

end Go.Proofs.Ytlmhdocfdpbhmaa

namespace Go.Proofs.Ytlmhdocfdpbhmaa
open Go.RowKit Plain
set_option linter.unusedVariables false

/-- Two lists that read alike are equal. -/
theorem Ints.same (va vb : Value) (l : List Int) (w : World) (ha : IntsIn w va l) (hb : IntsIn w vb l) :
    Calls Try.prog 59 #[va, vb] w fun e w' => e = .returned (.bool true) ∧ ∃ m, w' = w.drewN m := by
  obtain ⟨a, ca, rfl, hl, _, h1⟩ := ha
  obtain ⟨b, cb, rfl, _, _, h2⟩ := hb
  have H1 := Lib.hid h1
  have H2 := Lib.hid h2
  clear h1 h2
  go_enter Try.func59, Try.ntmps59
  go_wp2
  go_loopw [5] (fun i wr => ∃ k m : Nat, i = .int .i64 (k : Int) ∧ k ≤ l.length ∧ wr = w.drewN m) (fun i _ => l.length - (intOf i).toNat)
  case atStart => exact ⟨0, 0, rfl, by omega, rfl⟩
  case round =>
    obtain ⟨k, m, rfl, hk, rfl⟩ := hrel
    by_cases hlt : k < l.length
    · obtain ⟨ba, oa, rfl, _, ka⟩ := H1.out (by omega)
      obtain ⟨bb, ob, rfl, _, kb⟩ := H2.out (by omega)
      have ka' := ka k hlt
      have kb' := kb k hlt
      clear ka kb
      have hlz : (k : Int) < (l.length : Int) := by omega
      go_wp2
      go_quiet (fail)
      go_wp2
      go_roundw
      case rel => exact ⟨k + 1, _, by go_num, by omega, rfl⟩
      case measure => simp [intOf] <;> omega
    · go_wp2
      go_ret
      exact ⟨rfl, _, rfl⟩

/-- The marks k, k+1, .. -/
def Plain.marks (k n : Nat) : List Int := (List.range n).map fun i => ((k + i : Nat) : Int)
theorem marks_length (k n : Nat) : (marks k n).length = n := by simp [marks]
theorem marks_getD (k n j : Nat) (h : j < n) : (marks k n).getD j 0 = ((k + j : Nat) : Int) := by
  simp [marks, List.getD_eq_getElem?_getD, h]
theorem marks_bound (k n : Nat) (h : (k + n : Int) ≤ 4000000) : ∀ x ∈ marks k n, -9223372036854775808 ≤ x ∧ x ≤ 9223372036854775807 := by
  intro x hx
  simp only [marks, List.mem_map, List.mem_range] at hx
  obtain ⟨i, hi, rfl⟩ := hx
  omega

theorem Ints.held (v : Value) (k n : Nat) (w : World) (hkn : (k + n : Int) ≤ 4000000) (h : IntsIn w v (marks k n)) :
    Calls Try.prog 61 #[v, .int .i64 k] w fun e w' => e = .returned (.int .i64 ((k + n : Nat) : Int)) ∧ w = w' := by
  obtain ⟨a, ca, rfl, hl, _, h1⟩ := h
  rw [marks_length] at *
  have H1 := Lib.hid h1
  clear h1
  go_enter Try.func61, Try.ntmps61
  go_wp2
  go_loop [1, 5] (fun c i => ∃ j : Nat, i = .int .i64 (j : Int) ∧ j ≤ n ∧ c = .int .i64 ((k + j : Nat) : Int)) (fun _ i => n - (intOf i).toNat)
  case atStart => exact ⟨0, rfl, by omega, by simp⟩
  case round =>
    obtain ⟨j, rfl, hj, rfl⟩ := hrel
    by_cases hlt : j < n
    · obtain ⟨ba, oa, rfl, _, ka⟩ := H1.out (by omega)
      have ka' := ka j hlt
      rw [marks_getD k n j hlt] at ka'
      clear ka
      have hlz : (j : Int) < (n : Int) := by omega
      generalize hq : ((k + j : Nat) : Int) = q at ka' ⊢
      have HQ := Lib.hid hq
      have hq0 : 0 ≤ q := by omega
      have hq1 : q ≤ 4000000 := by omega
      clear hq
      go_wp2
      go_round
      case rel => exact ⟨j + 1, by go_num, by omega, by rw [← HQ.out]; go_num⟩
      case measure => simp [intOf] <;> omega
    · obtain rfl : j = n := by omega
      go_wp2
      go_ret
      exact ⟨rfl, rfl⟩

theorem marks_set (k j : Nat) (l : List Int) (h : j < l.length) : (marks k j ++ l.drop j).set j ((k + j : Nat) : Int) = marks k (j + 1) ++ l.drop (j + 1) := by
  rw [List.set_append_right _ _ (by rw [marks_length]; exact Nat.le_refl _), marks_length, Nat.sub_self, List.drop_eq_getElem_cons h, List.set_cons_zero]
  simp [marks, List.range_succ]
theorem marks_len (k j : Nat) (l : List Int) (h : j ≤ l.length) : (marks k j ++ l.drop j).length = l.length := by
  rw [List.length_append, marks_length, List.length_drop]; omega

/-- What markIntS leaves. -/
def Marked (B : Nat) (v : Value) (k n : Nat) (w : World) (e : Ending) (w' : World) : Prop :=
  e = .returned (.int .i64 ((k + n : Nat) : Int)) ∧ IntRow w' B v (marks k n) ∧ w.grownBy w' v.ownBlock

theorem Ints.mark (B : Nat) (v : Value) (l : List Int) (k : Nat) (w : World) (hkn : (k + l.length : Int) ≤ 2000000) (h : IntRow w B v l) :
    Calls Try.prog 60 #[v, .int .i64 k] w (Marked B v k l.length w) := by
  rcases h.shape with ⟨rfl, rfl⟩ | ⟨g, cap, rfl, hB, hg⟩
  · have H := Lib.hid h
    clear h
    go_enter Try.func60, Try.ntmps60
    go_wp2
    refine wp_loop_rounds 1 ?_
    rw [rounds_succ]
    go_wp2
    go_ret
    exact ⟨rfl, H.out, ⟨rfl, rfl, rfl, Nat.le_refl _, fun _ _ _ => rfl⟩⟩
  · have H := Lib.hid h
    clear h
    go_enter Try.func60, Try.ntmps60
    go_wp2
    go_loopw [1, 5] (fun c i wr => ∃ j : Nat, i = .int .i64 (j : Int) ∧ j ≤ l.length ∧ c = .int .i64 ((k + j : Nat) : Int) ∧ IntRow wr B (.slice (some ⟨g, 0, none⟩) l.length cap) (marks k j ++ l.drop j) ∧ w.grownBy wr (some g)) (fun _ i _ => l.length - (intOf i).toNat)
    case atStart => exact ⟨0, rfl, by omega, by simp, by simpa [marks] using H.out, ⟨rfl, rfl, rfl, Nat.le_refl _, fun _ _ _ => rfl⟩⟩
    case round =>
      obtain ⟨j, rfl, hj, rfl, hrow, hgr⟩ := hrel
      have HG := Lib.hid hgr
      clear hgr
      by_cases hlt : j < l.length
      · have hst := hrow.store (marks_len k j l (by omega)) j ((k + j : Nat) : Int)
        rw [marks_set k j l hlt] at hst
        have HST := Lib.hid hst
        have hlen := marks_len k j l (by omega)
        have hcell := IntRow.cell (w := wr) (B := B) (g := g) (cap := cap) (l := marks k j ++ l.drop j) (by rw [hlen]; exact hrow) j (by rw [hlen]; exact hlt)
        have hfree := IntRow.free (w := wr) (B := B) (g := g) (cap := cap) (l := marks k j ++ l.drop j) (by rw [hlen]; exact hrow) j
        generalize (marks k j ++ l.drop j).getD j 0 = old at hcell
        clear hst hrow hlen
        have hlz : (j : Int) < (l.length : Int) := by omega
        generalize hq : ((k + j : Nat) : Int) = q at HST ⊢
        have HQ := Lib.hid hq
        have hq0 : 0 ≤ q := by omega
        have hq1 : q ≤ 4000000 := by omega
        clear hq
        go_wp2
        go_roundw
        case rel => exact ⟨j + 1, by go_num, by omega, by rw [← HQ.out]; go_num, HST.out.1, ⟨HST.out.2.os.trans HG.out.os, HST.out.2.tape.trans HG.out.tape, HST.out.2.output.trans HG.out.output, Nat.le_trans HG.out.size HST.out.2.size, fun i hi hne => (HST.out.2.block i (Nat.lt_of_lt_of_le hi HG.out.size) hne).trans (HG.out.block i hi hne)⟩⟩
        case measure => simp [intOf] <;> omega
      · obtain rfl : j = l.length := by omega
        have HR := Lib.hid hrow
        clear hrow
        go_wp2
        go_ret
        exact ⟨rfl, by simpa using HR.out, HG.out⟩

end Go.Proofs.Ytlmhdocfdpbhmaa

namespace Go.Proofs.Ytlmhdocfdpbhmaa
open Go.RowKit Plain
set_option linter.unusedVariables false

theorem IntRow.made {w : World} {B n : Nat} {v : Value} (h : w.ownsRow B 3 1 v n (madeCells (Value.int .i64 0).cells (n * 1)).toList) : IntRow w B v (List.replicate n 0) := by
  have e : (madeCells (Value.int .i64 0).cells (n * 1)).toList = intsV (List.replicate n 0) := by
    show (madeCells #[Value.int .i64 0] (n * 1)).toList = _
    rw [toList_madeCells_one, Nat.mul_one]
    simp [intsV]
  unfold IntRow
  rw [← e, List.length_replicate]
  exact h

/-- A list of ints in new memory. -/
def CopyOut (l : List Int) (w : World) (e : Ending) (w' : World) : Prop := ∃ g, e = .returned (.slice (some ⟨g, 0, none⟩) l.length l.length) ∧ IntRow w' w.heap.size (.slice (some ⟨g, 0, none⟩) l.length l.length) l ∧ Below w.heap.size w w'

theorem copy_set (l : List Int) (k : Nat) (h : k < l.length) : (l.take k ++ List.replicate (l.length - k) 0).set k (l.getD k 0) = l.take (k + 1) ++ List.replicate (l.length - (k + 1)) 0 := by
  have hk : (l.take k).length = k := by rw [List.length_take]; omega
  rw [List.set_append_right _ _ (by omega), hk, Nat.sub_self, show l.length - k = (l.length - (k + 1)) + 1 by omega, List.replicate_succ, List.set_cons_zero, List.take_succ_eq_append_getElem h, List.append_assoc]
  congr 1
  rw [List.getD_eq_getElem?_getD, List.getElem?_eq_getElem h]
  rfl
theorem copy_len (l : List Int) (k : Nat) (h : k ≤ l.length) : (l.take k ++ List.replicate (l.length - k) 0).length = l.length := by
  rw [List.length_append, List.length_take, List.length_replicate]; omega

set_option maxRecDepth 100000 in
set_option maxHeartbeats 1000000 in
theorem Ints.copy (v : Value) (l : List Int) (w : World) (h : IntsIn w v l) :
    Calls Try.prog 63 #[v] w (CopyOut l w) := by
  obtain ⟨a, cap, rfl, hl, _, hrd⟩ := h
  obtain ⟨i0, hi, hz0, hz1, hz2⟩ := info_parts Try.infoInt
  have HRD := Lib.hid hrd
  clear hrd
  go_enter Try.func63, Try.ntmps63
  go_wp2_with (at_make; go_must (refine wpList_make_full _ rfl _ _ 36 rfl w.heap.size 3 i0 (.int .i64 0) 1 Try.underlying36 hi hz0 hz1 _ _ _ _ l.length rfl rfl rfl rfl (by rw [hz2]; omega) (by unfold maxLen; omega) (Nat.le_refl _) ?_; intro w1 hown hgrow))
  have HROW := Lib.hid (IntRow.made hown)
  have HB := Lib.hid ((Below.refl w.heap.size w).grown hgrow (Nat.le_refl _) (fun _ h => by cases h))
  clear hown hgrow hi hz0 hz1 hz2
  go_loopw [4] (fun i wr => ∃ k : Nat, i = .int .i64 (k : Int) ∧ k ≤ l.length ∧ IntRow wr w.heap.size (.slice (some ⟨w.heap.size, 0, none⟩) l.length l.length) (l.take k ++ List.replicate (l.length - k) 0) ∧ Below w.heap.size w wr) (fun i _ => l.length - (intOf i).toNat)
  case atStart => exact ⟨0, rfl, by omega, by simpa using HROW.out, HB.out⟩
  case round =>
    obtain ⟨k, rfl, hk, hrow, hbel⟩ := hrel
    have HBEL := Lib.hid hbel
    by_cases hlt : k < l.length
    · obtain ⟨b, off, rfl, hbw, hcl⟩ := HRD.out (by omega)
      have hcp : wr.cell? ⟨b, off + k, none⟩ = some (.int .i64 (l.getD k 0)) := (hbel.cell (p := ⟨b, off + k, none⟩) hbw).trans (hcl k hlt)
      have hlen := copy_len l k hk
      have hst := hrow.store hlen k (l.getD k 0)
      rw [copy_set l k hlt] at hst
      have HST := Lib.hid hst.1
      have hcell := IntRow.cell (w := wr) (B := w.heap.size) (g := w.heap.size) (cap := l.length) (l := l.take k ++ List.replicate (l.length - k) 0) (by rw [hlen]; exact hrow) k (by rw [hlen]; exact hlt)
      have hfree := IntRow.free (w := wr) (B := w.heap.size) (g := w.heap.size) (cap := l.length) (l := l.take k ++ List.replicate (l.length - k) 0) (by rw [hlen]; exact hrow) k
      generalize (l.take k ++ List.replicate (l.length - k) 0).getD k 0 = old at hcell
      generalize l.getD k 0 = x at hcp HST
      have hkz : (k : Int) < (l.length : Int) := by omega
      clear hst hrow hlen hbel hcl
      go_wp2
      go_roundw
      case rel => exact ⟨k + 1, by go_num, by omega, HST.out, bS (Nat.le_refl _) HBEL.out⟩
      case measure => simp [intOf] <;> omega
    · obtain rfl : k = l.length := by omega
      have HR : Hid (IntRow wr w.heap.size (.slice (some ⟨w.heap.size, 0, none⟩) l.length l.length) l) := Lib.hid (by simpa using hrow)
      clear hrow hbel
      go_wp2
      go_ret
      exact ⟨_, rfl, HR.out, HBEL.out⟩

end Go.Proofs.Ytlmhdocfdpbhmaa

namespace Go.Proofs.Ytlmhdocfdpbhmaa
open Go.RowKit Plain
set_option linter.unusedVariables false

/-- A row of ints of the call's own that is not nil: block, capacity, numbers. -/
def RowAt (w : World) (B g cap : Nat) (l : List Int) : Prop := IntRow w B (.slice (some ⟨g, 0, none⟩) l.length cap) l ∧ l.length ≤ cap
theorem RowAt.cell {w : World} {B g cap : Nat} {l : List Int} (h : RowAt w B g cap l) (j : Nat) (hj : j < l.length) : w.cell? ⟨g, j, none⟩ = some (.int .i64 (l.getD j 0)) := h.1.cell j hj
theorem RowAt.lt {w : World} {B g cap : Nat} {l : List Int} (h : RowAt w B g cap l) : B ≤ g ∧ g < w.heap.size := h.1.lt g rfl
theorem RowAt.below {w w' : World} {B g cap : Nat} {l : List Int} (h : RowAt w B g cap l) (hb : Below w.heap.size w w') : RowAt w' B g cap l := ⟨h.1.below hb, h.2⟩
theorem rowLit (w : World) (B g : Nat) (l : List Int) (hg : g = w.heap.size) (hB : B ≤ g) (hl : l.length ≤ 1000) : RowAt (w.alloc (.cells (l.map (Value.int .i64)).toArray 3)) B g l.length l := by
  subst hg
  refine ⟨?_, Nat.le_refl _⟩
  have h := World.ownsRow_lit (e := 3) (size := 1) (base := B) w (l.map (Value.int .i64)).toArray l.length hB (by unfold maxLen; omega) (by simp)
  unfold IntRow
  simpa [intsV] using h

theorem step_ints {ops : Array Oper} {o : Oper} {a : Act} {K : Act → World → Prop} {Q : Exit → Act → World → Prop} {E : Prop} (hgd : o.guard = none) (s x : Operand)
    (ho : o.op = .call { callee := .builtin .append, args := #[s, x], argTypes := #[36, 36] })
    (B : Nat) (W0 wr : World) (g cap n m r : Nat) (l news : List Int) (sb so sc : Nat) (hown : RowAt wr B g cap l) (hn : l.length = n) (hm : news.length = m) (hr : n + m = r) (hb : Below B W0 wr) (hB : B ≤ wr.heap.size) (hlen : r ≤ 1000)
    (hs : a.eval s = .slice (some ⟨g, 0, none⟩) n cap) (hx : a.eval x = .slice (some ⟨sb, so, none⟩) m sc) (hsrc : ∀ j, j < m → wr.cell? ⟨sb, so + j, none⟩ = some (.int .i64 (news.getD j 0)))
    (h : ∀ g' cap' w1, RowAt w1 B g' cap' (l ++ news) → (l ++ news).length = r → Below B W0 w1 → wr.grownBy w1 (some g) → K (a.put o.dst (.slice (some ⟨g', 0, none⟩) r cap')) w1) :
    if Region.wanted o (yielded ops a.tmps) = true then Oper.wp Try.prog o a wr K Q else E := by
  have hw : Region.wanted o (yielded ops a.tmps) = true := by simp [Region.wanted, hgd]
  rw [if_pos hw]
  subst hn hm hr
  obtain ⟨i0, hi, hz0, hz1, hz2⟩ := info_parts Try.infoInt
  refine wp_append_own _ s x 36 ho B 3 i0 (.int .i64 0) 1 8 Try.underlying36 hi hz0 hz1 hz2 rfl (by decide) _ l.length (intsV l) hs hown.1 ⟨sb, so, none⟩ news.length sc (intsV news) hx (by simp [intsV]) ?_ ?_ ?_ ?_ hB ?_
  · intro j u hj
    have hjl : j < news.length := by
      rcases Nat.lt_or_ge j news.length with h1 | h1
      · exact h1
      · simp [intsV, List.getElem?_eq_none h1] at hj
    have hc := hsrc j hjl
    rw [show (⟨sb, so, none⟩ : Addr).add j = ⟨sb, so + j, none⟩ by simp [Addr.add], hc]
    simp [intsV, List.getElem?_eq_getElem hjl] at hj
    subst hj
    simp [List.getD_eq_getElem?_getD, List.getElem?_eq_getElem hjl]
  · intro u hu
    simp only [intsV, List.mem_map] at hu
    obtain ⟨y, _, rfl⟩ := hu
    rfl
  · unfold maxLen; omega
  · omega
  · intro v' w1 h1 h2 h3
    have hlt := hown.lt
    have hlen' : (l ++ news).length = l.length + news.length := List.length_append
    have hrow : IntRow w1 B v' (l ++ news) := by
      unfold IntRow
      rw [hlen', show intsV (l ++ news) = intsV l ++ intsV news by simp [intsV]]
      exact h1
    have hbb : Below B W0 w1 := hb.grown h2 hB (fun j hj => by simp [Value.ownBlock] at hj; omega)
    rcases hrow.2 with ⟨hv, _⟩ | ⟨g', cap', cur, hv, hB', hg', hcap, _⟩
    · have := (h3.1 hv).1
      cases this
    · subst hv
      have hh := h g' cap' w1 ⟨hrow, hcap⟩ hlen' hbb (by simpa [Value.ownBlock] using h2)
      rw [hlen']
      exact hh

end Go.Proofs.Ytlmhdocfdpbhmaa
