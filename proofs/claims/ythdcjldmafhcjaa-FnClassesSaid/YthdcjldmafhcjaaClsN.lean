/-
  The map of words of the program: how often each word came. Maps that are cleared.
  leastWord of the program: the least of the words that are keys.
-/
import Derived.Test.YthdcjldmafhcjaaClsP
import Derived.Test.YthdcjldmafhcjaaResIM
import Derived.Maps.Ext
import Derived.Maps.RangeWalk
import Derived.OwnWalk

namespace Go.Proofs.Ythdcjldmafhcjaa
open Go.RowKit Plain Go.Maps
open Go.ChangeMaps Go.MapKept Go.WideShapes
open Go.WideElems (Fit rd rg pl rd_val elemAt)
set_option linter.unusedVariables false

theorem lawW : Keyed Try.prog 56 := int_keyed Try.underlying56
theorem zeroI (w : World) : (zeroValue 3).run Try.prog w = .ok (.int .i64 0) w := by kernel_rfl

/-! clear(m) -/
theorem ownsMap_clear {H : Type} {P : Program} {w : World} {k e t : TypeId} {R : Value → Option (DataW H × List MemPlace)} {b n : Nat} {D : DataW H} (h : w.ownsMap P k R b n D) (ht : P.underlying t = some (.map k e)) (ty : TypeId) :
    ∃ w', (Builtin.clear_ #[t] ty #[.map (some b)]).run P w = .ok (.tuple #[]) w' ∧ w'.ownsMap P k R b 0 (.map []) ∧ w.grownBy w' (some b) := by
  obtain ⟨es, clock, hb, F, hs, rfl⟩ := h
  have hrun : (Builtin.clear_ #[t] ty #[.map (some b)]).run P w = .ok (.tuple #[]) (setBlock w b (.map #[] clock)) := by
    simp [Builtin.clear_, run_underlying ht, MapKept.run_getObj_map hb, MapKept.run_setObj_map _ hb, Result.andThen, setBlock]
  exact ⟨_, hrun, ⟨#[], clock, heap_setBlock_same hb _, ⟨by simp, stamped_empty clock, by simp⟩, Nat.le_refl _, rfl⟩,
    ⟨rfl, rfl, rfl, by simp [setBlock], fun i _ hi => heap_setBlock_other hb _ (fun e => hi (by rw [e]))⟩⟩

theorem wpList_clear_own {H : Type} {P : Program} (w : World) {ops : Array Oper} {rest : List Oper} {o : Oper} {a : Act} {Q : Exit → Act → World → Prop}
    (hg : o.guard = none) (m : Operand) (t : TypeId) (hop : o.op = Op.call { callee := Callee.builtin Builtin.clear, args := #[m], argTypes := #[t] })
    (k e : TypeId) (ht : P.underlying t = some (.map k e)) (R : Value → Option (DataW H × List MemPlace)) (b n : Nat) (D : DataW H)
    (hm : a.eval m = .map (some b)) (hown : w.ownsMap P k R b n D)
    (hK : ∀ w', w'.ownsMap P k R b 0 (.map []) → w.grownBy w' (some b) → wpList P ops Q rest (a.put o.dst (.tuple #[])) w') :
    wpList P ops Q (o :: rest) a w := by
  refine wpList_plain hg fun K' hK' => ?_
  obtain ⟨w', hrun, r1, r2⟩ := ownsMap_clear hown ht o.type
  unfold Oper.wp
  simp [execOp, hop, resolve, invoke, builtin, hm, hrun, Result.andThen]
  exact hK' _ _ (hK w' r1 r2)

/-! How often each word came -/
def keyW (x : Nat) : Lit := .int .u64 (x : Int)
theorem keyW_inj {x y : Nat} (h : keyW x = keyW y) : x = y := by
  simp only [keyW, Lit.int.injEq, true_and] at h
  omega
theorem keyW_key (x : Nat) : WideAt.IsKeyLit (keyW x) := trivial
structure Counts (D : DataW Unit) (l : List Nat) : Prop where
  tidy : Tidy D
  at' : ∀ x : Nat, D.atKey (keyW x) (.lit (.int .i64 0)) = .lit (.int .i64 (l.count x : Int))
  keys : ∃ ks : List Nat, ks.Nodup ∧ (∀ x, x ∈ ks ↔ x ∈ l) ∧ Maps.size D = ks.length ∧ ∀ kl, Maps.has D kl = true ↔ ∃ x ∈ ks, kl = keyW x
theorem counts_nil : Counts (.map []) [] :=
  ⟨tidy_empty, fun x => rfl, [], List.nodup_nil, fun x => Iff.rfl, rfl, fun kl => ⟨fun h => by simp [Maps.has_eq] at h, fun ⟨x, hx, _⟩ => absurd hx (by simp)⟩⟩
theorem counts_put {D : DataW Unit} {l : List Nat} (h : Counts D l) (x : Nat) : Counts (D.put (keyW x) (.lit (.int .i64 ((l.count x : Int) + 1)))) (l ++ [x]) := by
  obtain ⟨ht, ha, ks, hd, hk, hs, hh⟩ := h
  refine ⟨ht.put (keyW_key x) _, fun y => ?_, ?_⟩
  · by_cases e : y = x
    · subst e
      rw [atKey_put_same ht.isMap (keyW_key y), List.count_append]
      simp
    · rw [atKey_put_other (fun h => e (keyW_inj h)), ha y, List.count_append, List.count_singleton, if_neg (by simpa using fun h : x = y => e h.symm)]
      simp
  · have hx : Maps.has D (keyW x) = true ↔ x ∈ l := by
      rw [hh]
      exact ⟨fun ⟨y, hy, e⟩ => by rw [keyW_inj e]; exact (hk y).1 hy, fun h => ⟨x, (hk x).2 h, rfl⟩⟩
    have hput : ∀ kl, Maps.has (D.put (keyW x) (.lit (.int .i64 ((l.count x : Int) + 1)))) kl = true ↔ kl = keyW x ∨ Maps.has D kl = true := by
      intro kl
      by_cases e : kl = keyW x
      · subst e
        rw [has_put_same ht.isMap (keyW_key x)]; simp
      · rw [has_put_other e]; simp [e]
    have hsz := size_put (k := keyW x) ht (.lit (.int .i64 ((l.count x : Int) + 1)))
    by_cases e : x ∈ l
    · rw [if_pos (hx.2 e)] at hsz
      refine ⟨ks, hd, fun y => ?_, hsz.trans hs, fun kl => ?_⟩
      · rw [hk, List.mem_append]
        exact ⟨.inl, fun h => h.elim id fun h => by rw [List.mem_singleton.1 h]; exact e⟩
      · rw [hput, hh]
        exact ⟨fun h => h.elim (fun h => ⟨x, (hk x).2 e, h⟩) id, .inr⟩
    · rw [if_neg (fun h => e (hx.1 h))] at hsz
      refine ⟨x :: ks, List.nodup_cons.2 ⟨fun h => e ((hk x).1 h), hd⟩, fun y => ?_, by rw [hsz, hs]; rfl, fun kl => ?_⟩
      · rw [List.mem_cons, hk, List.mem_append, List.mem_singleton]
        exact Or.comm
      · rw [hput, hh]
        constructor
        · rintro (h | ⟨y, hy, h⟩)
          · exact ⟨x, List.mem_cons_self, h⟩
          · exact ⟨y, List.mem_cons_of_mem _ hy, h⟩
        · rintro ⟨y, hy, h⟩
          rcases List.mem_cons.1 hy with rfl | hy
          · exact .inl h
          · exact .inr ⟨y, hy, h⟩

/-- Block b is a map of at most n entries that says how often each word came. -/
def MapIs (w : World) (b n : Nat) (l : List Nat) : Prop := ∃ D : DataW Unit, w.ownsMap Try.prog 56 (plainElem Try.prog 3) b n D ∧ Counts D l
theorem MapIs.kept {w w' : World} {b n : Nat} {l : List Nat} {row : Option Nat} (h : MapIs w b n l) (hg : w.grownBy w' row) (hne : some b ≠ row) : MapIs w' b n l := by
  obtain ⟨D, h1, h2⟩ := h
  exact ⟨D, h1.kept hg hne, h2⟩
theorem MapIs.alloc {w : World} {b n : Nat} {l : List Nat} (h : MapIs w b n l) (o : Obj) : MapIs (w.alloc o) b n l := h.kept (World.grownBy_alloc w o none) (by simp)
theorem MapIs.below {w w' : World} {b n : Nat} {l : List Nat} (h : MapIs w b n l) (hb : Below w.heap.size w w') : MapIs w' b n l := h.kept (grownNone hb) (by simp)
theorem MapIs.lt {w : World} {b n : Nat} {l : List Nat} (h : MapIs w b n l) : b < w.heap.size := by
  obtain ⟨D, h1, _⟩ := h
  exact h1.lt
theorem MapIs.mono {w : World} {b n m : Nat} {l : List Nat} (h : MapIs w b n l) (hm : n ≤ m) : MapIs w b m l := by
  obtain ⟨D, h1, h2⟩ := h
  exact ⟨D, h1.mono hm, h2⟩

theorem wf_word {x : Nat} (h : (x : Int) ≤ 4294967295) : (Lit.int .u64 (x : Int)).wf = true := by
  exact WalkArith.wf_u64 (by omega)
theorem key_word {x : Nat} (h : (x : Int) ≤ 4294967295) : keyOf Try.prog 56 (.int .u64 (x : Int)) = some (keyW x) := keyOf_int_mk Try.underlying56 (wf_word h)

/-- ways[x]++: what is read. -/
theorem wp_look {ops : Array Oper} {rest : List Oper} {o : Oper} {a : Act} {Q : Exit → Act → World → Prop} (hg : o.guard = none) (m x : Operand) (hop : o.op = Op.lookup 58 m x false)
    (w : World) (b n : Nat) (l : List Nat) (hm : a.eval m = .map (some b)) (h : MapIs w b n l) (c : Nat) (hx : a.eval x = .int .u64 (c : Int)) (hc : (c : Int) ≤ 4294967295)
    (hK : wpList Try.prog ops Q rest (a.put o.dst (.int .i64 (l.count c : Int))) w) : wpList Try.prog ops Q (o :: rest) a w := by
  obtain ⟨D, h1, h2⟩ := h
  refine wpList_lookup_own_int w hg m x 58 hop 56 3 .i64 lawW Try.underlying58 Try.underlying3 (zeroI w) b n D hm h1 _ (keyW c) hx (key_word hc) ?_
  intro c' hat _
  rw [h2.at' c] at hat
  cases hat
  exact hK

/-- ways[x]++: what is written. -/
theorem wp_upd {ops : Array Oper} {rest : List Oper} {o : Oper} {a : Act} {Q : Exit → Act → World → Prop} (hg : o.guard = none) (m x v : Operand) (hop : o.op = Op.mapUpdate 58 m x v)
    (w : World) (b n : Nat) (l : List Nat) (hm : a.eval m = .map (some b)) (h : MapIs w b n l) (c : Nat) (hx : a.eval x = .int .u64 (c : Int)) (hc : (c : Int) ≤ 4294967295)
    (hv : a.eval v = .int .i64 ((l.count c : Int) + 1)) (hn : n ≤ 1000000) (hl : l.length ≤ 1000000)
    (hK : ∀ w', MapIs w' b (n + 1) (l ++ [c]) → w.grownBy w' (some b) → wpList Try.prog ops Q rest (a.put o.dst undef) w') : wpList Try.prog ops Q (o :: rest) a w := by
  obtain ⟨D, h1, h2⟩ := h
  have hcl := List.count_le_length (a := c) (l := l)
  refine wpList_mapUpdate_own w hg m x v 58 hop 56 3 lawW Try.underlying58 _ b n D hm h1 (by unfold maxLen; omega) _ _ (keyW c) hx hv (key_word hc) _ [] (plainElem_int Try.underlying3 (WalkArith.wf_i64 (by omega))) ?_
  intro w' h3 h4
  exact hK w' ⟨_, h3, counts_put h2 c⟩ h4

end Go.Proofs.Ythdcjldmafhcjaa

namespace Go.Proofs.Ythdcjldmafhcjaa
open Go.RowKit Plain Go.Maps
set_option linter.unusedVariables false

/-- Is k the least of 'full' and the words of l that are no longer to come? -/
def Low (n k : Nat) (l : List Nat) (left : Lit → Bool) : Prop := k ≤ fullN n ∧ (∀ x ∈ l, left (keyW x) = false → k ≤ x) ∧ (k = fullN n ∨ k ∈ l)
theorem low_start {D : DataW Unit} {l : List Nat} (h : Counts D l) (n : Nat) : Low n (fullN n) l (Maps.has D) := by
  refine ⟨Nat.le_refl _, fun x hx hf => ?_, .inl rfl⟩
  obtain ⟨ks, _, hk, _, hh⟩ := h.keys
  rw [(hh _).2 ⟨x, (hk x).2 hx, rfl⟩] at hf
  cases hf
theorem key_nat {D : DataW Unit} {l : List Nat} (h : Counts D l) {x c : Int} (hat : ∀ zd, D.atKey (.int .u64 x) zd = .lit (.int .i64 c)) : ∃ y : Nat, x = y ∧ y ∈ l := by
  obtain ⟨ks, _, hk, _, hh⟩ := h.keys
  obtain ⟨y, hy, e⟩ := (hh _).1 (has_true_of_atKey hat)
  simp only [keyW, Lit.int.injEq, true_and] at e
  exact ⟨y, e, (hk y).1 hy⟩
theorem low_step {n k y : Nat} {l : List Nat} {left : Lit → Bool} (h : Low n k l left) (hy : y ∈ l) : Low n (min k y) l (fun z => left z && !z.sameKey (keyW y)) := by
  obtain ⟨h1, h2, h3⟩ := h
  refine ⟨Nat.le_trans (Nat.min_le_left _ _) h1, fun x hx hf => ?_, ?_⟩
  · cases hl : left (keyW x) with
    | false => exact Nat.le_trans (Nat.min_le_left _ _) (h2 x hx hl)
    | true =>
      simp only [hl] at hf
      have hs : (keyW x).sameKey (keyW y) = true := by simpa using hf
      rw [keyW_inj (WideAt.sameKey_eq hs)]
      exact Nat.min_le_right _ _
  · rcases Nat.le_total k y with h | h
    · rw [Nat.min_eq_left h]; exact h3
    · rw [Nat.min_eq_right h]; exact .inr hy
theorem low_end {n k : Nat} {l : List Nat} {left : Lit → Bool} (h : Low n k l left) (hl : ∀ z, left z = false) : k ≤ fullN n ∧ (∀ x ∈ l, k ≤ x) ∧ (k = fullN n ∨ k ∈ l) :=
  ⟨h.1, fun x hx => h.2.1 x hx (hl _), h.2.2⟩

set_option maxRecDepth 100000 in
theorem Map.least (n : Nat) (hn : n ≤ 5) (b N : Nat) (l : List Nat) (hfl : ∀ x ∈ l, x ≤ fullN n) (w : World) (h : MapIs w b N l) :
    Calls Try.prog 52 #[.int .i64 n, .map (some b)] w fun e w' => (∃ k : Nat, e = .returned (.int .u64 (k : Int)) ∧ k ≤ fullN n ∧ (∀ x ∈ l, k ≤ x) ∧ (k = fullN n ∨ k ∈ l)) ∧ Below w.heap.size w w' := by
  obtain ⟨D, hown, hcnt⟩ := h
  have HC := Lib.hid hcnt
  have HF := Lib.hid hfl
  have HN := Lib.hid hn
  clear hcnt hfl hn
  go_enter Try.func52, Try.ntmps52
  go_wp2_with fail
  refine (Tab.full n HN.out _).mono ?_
  rintro e w1 ⟨rfl, rfl⟩
  go_wp2_with (first
    | (at_range; refine wpList_range_own _ rfl _ 58 rfl 56 3 lawW Try.underlying58 _ b N _ rfl hown ?_; intro w0 hrg0 hg0 hs0)
    | fail)
  go_frame
  go_loopw [5, 6] (fun m _ wr => ∃ (k : Nat) (left : Lit → Bool) (cnt : Nat), m = .int .u64 (k : Int) ∧ Hid (Low n k l left) ∧ wr.ranges Try.prog 56 (plainElem Try.prog 3) b w.heap.size N D left cnt ∧ Below w.heap.size w wr)
    (fun _ _ wr => wr.rangeLeft b w.heap.size)
  case atStart => exact ⟨_, _, _, rfl, Lib.hid (low_start HC.out n), hrg0, (Below.refl _ _).grown hg0 (Nat.le_refl _) (fun _ h => by cases h)⟩
  case round =>
    obtain ⟨k, left, cnt, rfl, hlow, hrg, hbel⟩ := hrel
    have HBEL := Lib.hid hbel
    clear hbel hrg0 hg0 hs0 hown
    go_wp2_with (first
      | (at_next; refine wpList_next_ranges_ii _ rfl _ rfl 56 3 .u64 .i64 lawW Try.underlying56 Try.underlying3 b w.heap.size N _ _ _ rfl hrg ?_ ?_)
      | fail)
    · intro _ hl0
      go_wp2
      go_ret
      exact ⟨⟨k, rfl, low_end hlow.out hl0⟩, HBEL.out⟩
    · intro x c w1 cnt1 hwx hwc hlx hat hrg1 hlt hg1 hs1 hen
      obtain ⟨y, rfl, hy⟩ := key_nat HC.out hat
      have HY := Lib.hid hy
      have HLOW := Lib.hid (low_step hlow.out hy)
      have hyf := HF.out y hy
      have hfl5 := fullN_le n HN.out
      have hyz : (y : Int) ≤ 4294967295 := by omega
      have hkz : (k : Int) ≤ 4294967295 := by have := hlow.out.1; omega
      have HR := Lib.hid hrg1
      have HB1 := Lib.hid (HBEL.out.grown hg1 (by have := hrg.lt; omega) (fun j hj => by cases hj; exact Nat.le_refl _))
      have HM : Hid (w1.rangeLeft b w.heap.size < wr.rangeLeft b w.heap.size) := Lib.hid (by rw [hrg1.left_eq, hrg.left_eq]; exact hlt)
      have hmin : Hid (((min k y : Nat) : Int) = if y < k then (y : Int) else (k : Int)) := Lib.hid (by split <;> omega)
      clear hat hy hyf hfl5 hrg hg1 hs1 hlow hwx hwc hlx hlt hrg1
      go_wp2
      go_roundw
      case rel => exact ⟨min k y, _, cnt1, by rw [hmin.out], HLOW, HR.out, HB1.out⟩
      case measure => exact HM.out

end Go.Proofs.Ythdcjldmafhcjaa
