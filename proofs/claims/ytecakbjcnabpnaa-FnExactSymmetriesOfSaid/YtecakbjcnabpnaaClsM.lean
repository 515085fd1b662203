/-
  The map of words of the program: how often each word came. Maps that are cleared.
-/
import Derived.Test.YtecakbjcnabpnaaClsP
import Derived.Test.YtecakbjcnabpnaaResIM
import Derived.Maps.Ext
import Derived.Maps.RangeWalk
import Derived.OwnWalk
namespace Go.Proofs.Ytecakbjcnabpnaa
open Go.RowKit Plain Go.Maps
open Go.ChangeMaps Go.MapKept Go.WideShapes
open Go.WideElems (Fit rd rg pl rd_val elemAt)
set_option linter.unusedVariables false

theorem lawW : Keyed Try.prog 62 := int_keyed Try.underlying62
theorem zeroI (w : World) : (zeroValue 3).run Try.prog w = .ok (.int .i64 0) w := by kernel_rfl

/-! clear(m) -/
theorem ownsMap_clear {H : Type} {P : Program} {w : World} {k e t : TypeId} {R : Value → Option (DataW H × List MemPlace)} {b n : Nat} {D : DataW H} (h : w.ownsMap P k R b n D) (ht : P.underlying t = some (.map k e)) (ty : TypeId) :
    ∃ w', (Builtin.clear_ #[t] ty #[.map (some b)]).run P w = .ok (.tuple #[]) w' ∧ w'.ownsMap P k R b 0 (.map []) ∧ w.grownBy w' (some b) := by
  obtain ⟨es, clock, hb, F, hs, rfl⟩ := h
  have hrun : (Builtin.clear_ #[t] ty #[.map (some b)]).run P w = .ok (.tuple #[]) (setBlock w b (.map #[] clock)) := by
    simp [Builtin.clear_, run_underlying ht, MapKept.run_getObj_map hb, MapKept.run_setObj_map _ hb, Result.andThen, setBlock]
  exact ⟨_, hrun, ⟨#[], clock, heap_setBlock_same hb _, ⟨by simp, stamped_empty clock, by simp⟩, Nat.le_refl _, rfl⟩,
    ⟨rfl, rfl, rfl, by simp [setBlock], fun i _ hi => heap_setBlock_other hb _ (fun e => hi (by rw [e]))⟩⟩

theorem wpList_clear_own {H : Type} {P : Program} (w : World) {ops : Array Oper} {rest : List Oper} {o : Oper} {a : Act} {Q : Exit → Act → World → Prop}
    (hg : o.guard = none) (m : Operand) (t : TypeId) (hop : o.op = Op.call { callee := Callee.builtin Builtin.clear, args := #[m], argTypes := #[t] })
    (k e : TypeId) (ht : P.underlying t = some (.map k e)) (R : Value → Option (DataW H × List MemPlace)) (b n : Nat) (D : DataW H)
    (hm : a.eval m = .map (some b)) (hown : w.ownsMap P k R b n D)
    (hK : ∀ w', w'.ownsMap P k R b 0 (.map []) → w.grownBy w' (some b) → wpList P ops Q rest (a.put o.dst (.tuple #[])) w') :
    wpList P ops Q (o :: rest) a w := by
  refine wpList_plain hg fun K' hK' => ?_
  obtain ⟨w', hrun, r1, r2⟩ := ownsMap_clear hown ht o.type
  unfold Oper.wp
  simp [execOp, hop, resolve, invoke, builtin, hm, hrun, Result.andThen]
  exact hK' _ _ (hK w' r1 r2)

/-! How often each word came -/
def keyW (x : Nat) : Lit := .int .u64 (x : Int)
theorem keyW_inj {x y : Nat} (h : keyW x = keyW y) : x = y := by
  simp only [keyW, Lit.int.injEq, true_and] at h
  omega
theorem keyW_key (x : Nat) : WideAt.IsKeyLit (keyW x) := trivial
structure Counts (D : DataW Unit) (l : List Nat) : Prop where
  tidy : Tidy D
  at' : ∀ x : Nat, D.atKey (keyW x) (.lit (.int .i64 0)) = .lit (.int .i64 (l.count x : Int))
  keys : ∃ ks : List Nat, ks.Nodup ∧ (∀ x, x ∈ ks ↔ x ∈ l) ∧ Maps.size D = ks.length ∧ ∀ kl, Maps.has D kl = true ↔ ∃ x ∈ ks, kl = keyW x
theorem counts_nil : Counts (.map []) [] :=
  ⟨tidy_empty, fun x => rfl, [], List.nodup_nil, fun x => Iff.rfl, rfl, fun kl => ⟨fun h => by simp [Maps.has_eq] at h, fun ⟨x, hx, _⟩ => absurd hx (by simp)⟩⟩
theorem counts_put {D : DataW Unit} {l : List Nat} (h : Counts D l) (x : Nat) : Counts (D.put (keyW x) (.lit (.int .i64 ((l.count x : Int) + 1)))) (l ++ [x]) := by
  obtain ⟨ht, ha, ks, hd, hk, hs, hh⟩ := h
  refine ⟨ht.put (keyW_key x) _, fun y => ?_, ?_⟩
  · by_cases e : y = x
    · subst e
      rw [atKey_put_same ht.isMap (keyW_key y), List.count_append]
      simp
    · rw [atKey_put_other (fun h => e (keyW_inj h)), ha y, List.count_append, List.count_singleton, if_neg (by simpa using fun h : x = y => e h.symm)]
      simp
  · have hx : Maps.has D (keyW x) = true ↔ x ∈ l := by
      rw [hh]
      exact ⟨fun ⟨y, hy, e⟩ => by rw [keyW_inj e]; exact (hk y).1 hy, fun h => ⟨x, (hk x).2 h, rfl⟩⟩
    have hput : ∀ kl, Maps.has (D.put (keyW x) (.lit (.int .i64 ((l.count x : Int) + 1)))) kl = true ↔ kl = keyW x ∨ Maps.has D kl = true := by
      intro kl
      by_cases e : kl = keyW x
      · subst e
        rw [has_put_same ht.isMap (keyW_key x)]; simp
      · rw [has_put_other e]; simp [e]
    have hsz := size_put (k := keyW x) ht (.lit (.int .i64 ((l.count x : Int) + 1)))
    by_cases e : x ∈ l
    · rw [if_pos (hx.2 e)] at hsz
      refine ⟨ks, hd, fun y => ?_, hsz.trans hs, fun kl => ?_⟩
      · rw [hk, List.mem_append]
        exact ⟨.inl, fun h => h.elim id fun h => by rw [List.mem_singleton.1 h]; exact e⟩
      · rw [hput, hh]
        exact ⟨fun h => h.elim (fun h => ⟨x, (hk x).2 e, h⟩) id, .inr⟩
    · rw [if_neg (fun h => e (hx.1 h))] at hsz
      refine ⟨x :: ks, List.nodup_cons.2 ⟨fun h => e ((hk x).1 h), hd⟩, fun y => ?_, by rw [hsz, hs]; rfl, fun kl => ?_⟩
      · rw [List.mem_cons, hk, List.mem_append, List.mem_singleton]
        exact Or.comm
      · rw [hput, hh]
        constructor
        · rintro (h | ⟨y, hy, h⟩)
          · exact ⟨x, List.mem_cons_self, h⟩
          · exact ⟨y, List.mem_cons_of_mem _ hy, h⟩
        · rintro ⟨y, hy, h⟩
          rcases List.mem_cons.1 hy with rfl | hy
          · exact .inl h
          · exact .inr ⟨y, hy, h⟩

/-- Block b is a map of at most n entries that says how often each word came. -/
def MapIs (w : World) (b n : Nat) (l : List Nat) : Prop := ∃ D : DataW Unit, w.ownsMap Try.prog 62 (plainElem Try.prog 3) b n D ∧ Counts D l
theorem MapIs.kept {w w' : World} {b n : Nat} {l : List Nat} {row : Option Nat} (h : MapIs w b n l) (hg : w.grownBy w' row) (hne : some b ≠ row) : MapIs w' b n l := by
  obtain ⟨D, h1, h2⟩ := h
  exact ⟨D, h1.kept hg hne, h2⟩
theorem MapIs.alloc {w : World} {b n : Nat} {l : List Nat} (h : MapIs w b n l) (o : Obj) : MapIs (w.alloc o) b n l := h.kept (World.grownBy_alloc w o none) (by simp)
theorem MapIs.below {w w' : World} {b n : Nat} {l : List Nat} (h : MapIs w b n l) (hb : Below w.heap.size w w') : MapIs w' b n l := h.kept (grownNone hb) (by simp)
theorem MapIs.lt {w : World} {b n : Nat} {l : List Nat} (h : MapIs w b n l) : b < w.heap.size := by
  obtain ⟨D, h1, _⟩ := h
  exact h1.lt
theorem MapIs.mono {w : World} {b n m : Nat} {l : List Nat} (h : MapIs w b n l) (hm : n ≤ m) : MapIs w b m l := by
  obtain ⟨D, h1, h2⟩ := h
  exact ⟨D, h1.mono hm, h2⟩

theorem wf_word {x : Nat} (h : (x : Int) ≤ 4294967295) : (Lit.int .u64 (x : Int)).wf = true := by
  exact WalkArith.wf_u64 (by omega)
theorem key_word {x : Nat} (h : (x : Int) ≤ 4294967295) : keyOf Try.prog 62 (.int .u64 (x : Int)) = some (keyW x) := keyOf_int_mk Try.underlying62 (wf_word h)

/-- ways[x]++: what is read. -/
theorem wp_look {ops : Array Oper} {rest : List Oper} {o : Oper} {a : Act} {Q : Exit → Act → World → Prop} (hg : o.guard = none) (m x : Operand) (hop : o.op = Op.lookup 85 m x false)
    (w : World) (b n : Nat) (l : List Nat) (hm : a.eval m = .map (some b)) (h : MapIs w b n l) (c : Nat) (hx : a.eval x = .int .u64 (c : Int)) (hc : (c : Int) ≤ 4294967295)
    (hK : wpList Try.prog ops Q rest (a.put o.dst (.int .i64 (l.count c : Int))) w) : wpList Try.prog ops Q (o :: rest) a w := by
  obtain ⟨D, h1, h2⟩ := h
  refine wpList_lookup_own_int w hg m x 85 hop 62 3 .i64 lawW Try.underlying85 Try.underlying3 (zeroI w) b n D hm h1 _ (keyW c) hx (key_word hc) ?_
  intro c' hat _
  rw [h2.at' c] at hat
  cases hat
  exact hK

/-- ways[x]++: what is written. -/
theorem wp_upd {ops : Array Oper} {rest : List Oper} {o : Oper} {a : Act} {Q : Exit → Act → World → Prop} (hg : o.guard = none) (m x v : Operand) (hop : o.op = Op.mapUpdate 85 m x v)
    (w : World) (b n : Nat) (l : List Nat) (hm : a.eval m = .map (some b)) (h : MapIs w b n l) (c : Nat) (hx : a.eval x = .int .u64 (c : Int)) (hc : (c : Int) ≤ 4294967295)
    (hv : a.eval v = .int .i64 ((l.count c : Int) + 1)) (hn : n ≤ 1000000) (hl : l.length ≤ 1000000)
    (hK : ∀ w', MapIs w' b (n + 1) (l ++ [c]) → w.grownBy w' (some b) → wpList Try.prog ops Q rest (a.put o.dst undef) w') : wpList Try.prog ops Q (o :: rest) a w := by
  obtain ⟨D, h1, h2⟩ := h
  have hcl := List.count_le_length (a := c) (l := l)
  refine wpList_mapUpdate_own w hg m x v 85 hop 62 3 lawW Try.underlying85 _ b n D hm h1 (by unfold maxLen; omega) _ _ (keyW c) hx hv (key_word hc) _ [] (plainElem_int Try.underlying3 (WalkArith.wf_i64 (by omega))) ?_
  intro w' h3 h4
  exact hK w' ⟨_, h3, counts_put h2 c⟩ h4
end Go.Proofs.Ytecakbjcnabpnaa
