/-
  Goroutines: a region that asks the tape for its order, in company: what each operation yields does not depend on the order.
-/
import Derived.Conc.CompanyDraw
import Derived.Conc.CompanyCalls
namespace Go.Veiled
open Go.Conc
set_option linter.unusedVariables false

theorem filt_le {p q : Nat → Bool} (h : ∀ x, q x = true → p x = true) : ∀ l : List Nat, (l.filter q).length ≤ (l.filter p).length := by
  intro l
  induction l with
  | nil => exact Nat.le_refl _
  | cons x l ih =>
    by_cases hq : q x = true
    · rw [List.filter_cons_of_pos hq, List.filter_cons_of_pos (h x hq)]; simpa using ih
    · rw [List.filter_cons_of_neg hq]
      by_cases hp : p x = true
      · rw [List.filter_cons_of_pos hp, List.length_cons]; omega
      · rw [List.filter_cons_of_neg hp]; exact ih
theorem filt_lt {p q : Nat → Bool} (h : ∀ x, q x = true → p x = true) {i : Nat} (hp : p i = true) (hq : q i = false) : ∀ l : List Nat, i ∈ l → (l.filter q).length < (l.filter p).length := by
  intro l
  induction l with
  | nil => intro hm; cases hm
  | cons x l ih =>
    intro hm
    by_cases e : x = i
    · subst e
      have := filt_le h l
      rw [List.filter_cons_of_neg (by rw [hq]; decide), List.filter_cons_of_pos hp, List.length_cons]
      omega
    · have hm2 : i ∈ l := by
        rcases List.mem_cons.1 hm with h1 | h1
        · exact absurd h1.symm e
        · exact h1
      have := ih hm2
      by_cases hqx : q x = true
      · rw [List.filter_cons_of_pos hqx, List.filter_cons_of_pos (h x hqx), List.length_cons, List.length_cons]; omega
      · rw [List.filter_cons_of_neg hqx]
        by_cases hpx : p x = true
        · rw [List.filter_cons_of_pos hpx, List.length_cons]; omega
        · rw [List.filter_cons_of_neg hpx]; exact this

/-- Has operation k come up? -/
def lst (l : Array Bool) (k : Nat) : Bool := l.getD k false
theorem lst_set {l : Array Bool} {i : Nat} (hi : i < l.size) (k : Nat) : lst (l.setIfInBounds i true) k = if k = i then true else lst l k := by
  unfold lst
  rw [Array.getD_eq_getD_getElem?, Array.getD_eq_getD_getElem?, Array.getElem?_setIfInBounds]
  by_cases e : k = i
  · subst e; rw [if_pos rfl, if_pos rfl, if_pos hi]; rfl
  · rw [if_neg (fun h => e h.symm), if_neg e]
theorem lst_none (n k : Nat) : lst (Array.replicate n false) k = false := by
  unfold lst
  rw [Array.getD_eq_getD_getElem?, Array.getElem?_replicate]
  split <;> rfl
theorem lst_true {l : Array Bool} {k : Nat} (hk : k < l.size) : l.getD k true = lst l k := by
  unfold lst
  rw [Array.getD_eq_getD_getElem?, Array.getD_eq_getD_getElem?, Array.getElem?_eq_getElem hk]
  rfl

/-- How many have not. -/
def openOps (ops : Array Oper) (l : Array Bool) : Nat := ((List.range ops.size).filter fun i => !l.getD i true).length
theorem ready_mem {md : Region.Mode} {ops : Array Oper} {l : Array Bool} {i : Nat} (h : i ∈ Region.ready md ops l) :
    i < ops.size ∧ l.getD i true = false ∧ ∀ o, ops[i]? = some o → ∀ e ∈ o.after, Region.binds md e = true → lst l e.on = true := by
  unfold Region.ready at h
  rw [List.mem_filter, List.mem_range, Bool.and_eq_true] at h
  obtain ⟨h1, h2, h3⟩ := h
  refine ⟨h1, by simpa using h2, fun o ho e he hb => ?_⟩
  rw [ho] at h3
  simp only [Option.map_some, Option.getD_some] at h3
  have := Array.all_eq_true_iff_forall_mem.1 h3 e he
  rw [hb] at this
  exact this
theorem open_step {md : Region.Mode} {ops : Array Oper} {l : Array Bool} {i : Nat} (h : i ∈ Region.ready md ops l) : openOps ops (l.setIfInBounds i true) < openOps ops l := by
  obtain ⟨h1, h2, _⟩ := ready_mem h
  have hi : i < l.size := by
    rcases Nat.lt_or_ge i l.size with h | h
    · exact h
    · rw [Array.getD_eq_getD_getElem?, Array.getElem?_eq_none h] at h2; cases h2
  unfold openOps
  refine filt_lt (i := i) ?_ (by rw [h2]; rfl) ?_ _ (List.mem_range.2 h1)
  · intro x hx
    by_cases e : i = x
    · subst e; rw [h2]; rfl
    · rw [Array.getD_eq_getD_getElem?, Array.getElem?_setIfInBounds, if_neg e, ← Array.getD_eq_getD_getElem?] at hx
      exact hx
  · rw [Array.getD_eq_getD_getElem?, Array.getElem?_setIfInBounds, if_pos rfl, if_pos hi]; rfl
theorem ready_open {md : Region.Mode} {ops : Array Oper} {l : Array Bool} (h : openOps ops l = 0) : Region.ready md ops l = [] := by
  have h0 := List.eq_nil_of_length_eq_zero h
  refine List.eq_nil_iff_forall_not_mem.2 fun i hi => ?_
  obtain ⟨h1, h2, _⟩ := ready_mem hi
  have : i ∈ (List.range ops.size).filter fun i => !l.getD i true := List.mem_filter.2 ⟨List.mem_range.2 h1, by rw [h2]; rfl⟩
  rw [h0] at this
  cases this
/-- None is ready: all have come up, if each waits for earlier ones alone. -/
theorem ready_all {md : Region.Mode} {ops : Array Oper} (htop : ∀ (i : Nat) (o : Oper), ops[i]? = some o → ∀ e ∈ o.after, e.on < i) {l : Array Bool} (hs : l.size = ops.size) (h : Region.ready md ops l = []) : ∀ i, i < ops.size → lst l i = true := by
  intro i
  induction i using Nat.strongRecOn with
  | ind i ih =>
    intro hi
    cases hl : lst l i with
    | true => rfl
    | false =>
      have hm : i ∈ Region.ready md ops l := by
        unfold Region.ready
        rw [List.mem_filter, List.mem_range, Bool.and_eq_true]
        refine ⟨hi, by rw [lst_true (by omega), hl]; rfl, ?_⟩
        rw [Array.getElem?_eq_getElem hi]
        simp only [Option.map_some, Option.getD_some]
        refine Array.all_eq_true_iff_forall_mem.2 fun e he => ?_
        have hlt := htop i _ (Array.getElem?_eq_getElem hi) e he
        have := ih e.on hlt (by omega)
        unfold lst at this
        rw [this, Bool.or_true]
      rw [h] at hm
      cases hm

theorem top_of {ops : Array Oper} (h : ((List.range ops.size).all fun i => ((ops[i]?).map fun o => o.after.all fun e => decide (e.on < i)).getD true) = true) : ∀ (i : Nat) (o : Oper), ops[i]? = some o → ∀ e ∈ o.after, e.on < i := by
  intro i o ho e he
  have hi : i < ops.size := (Array.getElem?_eq_some_iff.1 ho).1
  have := List.all_eq_true.1 h i (List.mem_range.2 hi)
  rw [ho] at this
  simp only [Option.map_some, Option.getD_some] at this
  have := Array.all_eq_true_iff_forall_mem.1 this e he
  exact of_decide_eq_true this

section
variable {P : Program} {main : Bool} {R : World → World → Prop} {D : World → World → Array Event → Prop} {fn : FuncId} {ops : Array Oper} {Q : Exit → Act → World → Prop} {md : Region.Mode}
theorem opsC_any (T : Terms R D) {act : Array Bool → Act} {I : World → Prop} {C : Nat}
    (hstep : ∀ i l, l.size = ops.size → i ∈ Region.ready md ops l → ∀ w rest n, I w → (∀ w', I w' → OpsC P main R D fn ops rest n Q (act (l.setIfInBounds i true)) w') → OpsC P main R D fn ops (i :: rest) (n + C) Q (act l) w)
    (hend : ∀ l w, l.size = ops.size → Region.ready md ops l = [] → I w → Q .normal (act l) w) :
    ∀ (fuel t : Nat) (l : Array Bool) (w : World), l.size = ops.size → openOps ops l ≤ fuel → I w → OpsC P main R D fn ops (Region.linearise.go md ops fuel t l []) (fuel * C + 1) Q (act l) w := by
  intro fuel
  induction fuel with
  | zero =>
    intro t l w hs ho hI
    have := opsC_nil (P := P) (main := main) (fn := fn) T (ops := ops) (hend l w hs (ready_open (by omega)) hI)
    simpa [Region.linearise.go] using this
  | succ fuel ih =>
    intro t l w hs ho hI
    simp only [Region.linearise.go]
    change OpsC P main R D fn ops (match (Region.ready md ops l)[t % (Region.ready md ops l).length]? with
      | some i => Region.linearise.go md ops fuel (t / (Region.ready md ops l).length) (l.setIfInBounds i true) [i]
      | none => [].reverse) ((fuel + 1) * C + 1) Q (act l) w
    cases hi : (Region.ready md ops l)[t % (Region.ready md ops l).length]? with
    | none =>
      have hnil : Region.ready md ops l = [] := by
        cases hr : Region.ready md ops l with
        | nil => rfl
        | cons x xs =>
          rw [hr] at hi
          have hlt : t % (x :: xs).length < (x :: xs).length := Nat.mod_lt _ (by simp)
          simp at hi
          simp at hlt
          omega
      exact opsC_more (by simpa using opsC_nil T (hend l w hs hnil hI)) (by omega)
    | some i =>
      simp only []
      rw [linearise_go_acc, List.reverse_singleton, List.singleton_append]
      have hm := List.mem_of_getElem? hi
      have h := hstep i l hs hm w (Region.linearise.go md ops fuel (t / (Region.ready md ops l).length) (l.setIfInBounds i true) []) (fuel * C + 1) hI fun w' h' => ih _ _ w' (by simpa using hs) (by have := open_step hm; omega) h'
      exact opsC_more h (by rw [Nat.succ_mul]; omega)

/-- A region that asks the tape, each of whose operations yields one value in any order. -/
theorem wpC_region_any (T : Terms R D) (hd : LetsDraw D) (hm : P.follows .mixedOrders = true) {act : Array Bool → Act} {I : World → Prop} {C id : Nat} {a : Act} {w : World} (ha : act (Array.replicate ops.size false) = a)
    (hdraw : ∀ w, I w → I { w with drawn := w.drawn + 1 }) (hrel : ∀ w w₁, I w → R w w₁ → I w₁)
    (hstep : ∀ i l, l.size = ops.size → i ∈ Region.ready .any ops l → ∀ w rest n, I w → (∀ w', I w' → OpsC P main R D fn ops rest n Q (act (l.setIfInBounds i true)) w') → OpsC P main R D fn ops (i :: rest) (n + C) Q (act l) w)
    (hend : ∀ l w, l.size = ops.size → Region.ready .any ops l = [] → I w → Q .normal (act l) w) (hI : I w) :
    (Code.region id ops true).wpC P main R D fn (ops.size * C + 1 + 1) Q a w :=
  ha ▸ wpC_region_draw hd fun w₁ h₁ t => by
    simp only [Region.schedule, hm, Bool.true_or, if_true]
    refine opsC_any T hstep hend ops.size t _ _ (by simp) ?_ (hdraw _ (hrel _ _ hI h₁))
    unfold openOps
    exact Nat.le_trans (List.length_filter_le _ _) (by simp)
end
end Go.Veiled
