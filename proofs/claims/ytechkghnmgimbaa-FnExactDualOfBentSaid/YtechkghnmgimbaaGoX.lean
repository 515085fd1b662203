/-
  Goroutines, part X: what a step does does not hang on the frames far below.
  Goroutines, part Y: every step of a mild frame, whatever lies below.
  Goroutines, part ZA: each step of a worker; a run that dies.
  Goroutines, part ZB: the trace of one phase, its goroutines renumbered, others' mute words strewn in, behind a prefix.
  Goroutines, part ZC: a crew (a starter and its workers), as a run from nothing; what its return settles.
  Goroutines, part ZE: what is kept of a crew's trace besides; what each step is.
  Goroutines, part ZD: the phase in the great machine, in step with the crew.
  Goroutines, part ZF: the library's crowd is a crew.
  Goroutines, part ZG: the frames below.
  Goroutines, part ZH: a whole phase, from where the starter stands alone to the return of what it carries out.
  Goroutines, part ZI: a whole run, from the entry of a law to its return.
  Goroutines, part Wa: a call of a function value, in company.
  Goroutines, part Wb: what a lone run that ends tells of its next step.
-/
import Derived.Test.YtechkghnmgimbaaGoH
import Derived.Conc.CrowdRun
import Derived.Conc.CompanyWords
import Derived.Conc.WalkWords

namespace Go.Veiled
set_option linter.unusedSimpArgs false
set_option linter.unusedSectionVars false
set_option linter.unusedVariables false
open Go.Conc

/-- Operations whose outcome is a value, nothing, a call of a function of the list, a deferred call of one, a goroutine. -/
def mildOp (L : List FuncId) (o : Oper) : Bool :=
  match o.op with
  | .move _ | .assign _ | .pick _ _ _ | .alloc _ | .box _ _ | .build _ _ | .buildSlice _ _ _ | .load _ _ | .store _ _ _ | .unOp _ _ _ | .makeFunc _ _ _ | .makeSlice _ _ _ | .extract _ _ | .index _ _ _ | .indexAddr _ _ _ | .fieldAddr _ _ _
  | .binOp _ _ _ _ _ | .convert _ _ _ | .nilCheck _ | .makeInterface _ _ | .panic _ | .go _ => true
  | .defer { callee := .value (.func f), .. } => L.contains f
  | .call { callee := .builtin b, .. } => match b with | .append | .cap | .copy | .len | .max | .min => true | _ => false
  | .call { callee := .value (.func f), .. } => L.contains f
  | _ => false
def codeMild (L : List FuncId) : Code → Bool
  | .skip | .exit _ | .label _ | .ret | .refuse _ => true
  | .region _ ops _ => ops.toList.all (mildOp L)
  | .seq a b | .cond _ a b => codeMild L a && codeMild L b
  | .block _ a | .loop a => codeMild L a
  | _ => false
def itemMild (L : List FuncId) : Item → Bool
  | .code c => codeMild L c
  | .inBlock _ => true
  | .inLoop c => codeMild L c
  | .inRegion ops _ => ops.toList.all (mildOp L)
  | _ => false

theorem exitTo_mild {L : List FuncId} {id : Nat} : ∀ {k k' : List Item}, exitTo id k = some k' → (∀ it ∈ k, itemMild L it = true) → ∀ it ∈ k', itemMild L it = true := by
  intro k
  induction k with
  | nil => intro k' h; cases h
  | cons it k ih =>
    intro k' h hk
    have hk' : ∀ x ∈ k, itemMild L x = true := fun x hx => hk x (List.mem_cons_of_mem _ hx)
    cases it <;> simp only [exitTo] at h <;> first
      | exact ih h hk'
      | (split at h
         · cases h; exact hk'
         · exact ih h hk')

/-- What is asked of the program: the functions of the list are mild; those without a body answer by a value. -/
structure MildP (P : Program) (L : List FuncId) : Prop where
  ahead : P.follows .staticDataAhead = true
  step : ∀ g, P.stepOf g = none
  fns : ∀ f ∈ L, ∃ fn, P.funcs[f]? = some fn ∧ (fn.name == "runtime.NumGoroutine") = false ∧ (∀ c, fn.body = some c → codeMild L c = true) ∧ (fn.body = none → Extern.findNext fn = none)

/-- Outcomes. -/
inductive Mild (L : List FuncId) : Next → Prop
  | value (u : Value) : Mild L (.value u)
  | skip : Mild L .skip
  | enter (f : FuncId) (args : Array Value) : f ∈ L → Mild L (.enter f args)
  | defer (f : FuncId) (args : Array Value) : f ∈ L → Mild L (.defer { target := .fn (.func f) #[], args })
  | spawn (d : Deferred) : Mild L (.spawn d)

section
variable {P : Program} {L : List FuncId}

theorem shape_bind {α β : Type} {Q : β → Prop} {s : Sem α} {f : α → Sem β} (hf : ∀ a w w' es es' x, (f a).runT P w es = (.ok x w', es') → Q x) {w w' : World} {es es' : Array Event} {x : β} (h : (s >>= f).runT P w es = (.ok x w', es')) : Q x := by
  have h' : (s.bind f).runT P w es = (.ok x w', es') := h
  rw [Sem.runT_bind'] at h'
  split at h'
  · exact hf _ _ _ _ _ _ h'
  · cases h'

theorem callFunc_mild (hP : MildP P L) {f : FuncId} (hf : f ∈ L) {args : Array Value} {w w' : World} {es es' : Array Event} {x : Next} (h : (callFunc f args).runT P w es = (.ok x w', es')) : Mild L x := by
  obtain ⟨fn, hF, hname, _, hnext⟩ := hP.fns f hf
  simp only [callFunc, program, bind, Sem.bind, Sem.runT, hF, hname, Bool.false_eq_true, if_false] at h
  cases hb : fn.body with
  | some c =>
    simp only [hb, Option.isNone_some, Bool.false_eq_true, if_false] at h
    have : (Result.ok (Next.enter f args) w, es) = (Result.ok x w', es') := h
    simp only [Prod.mk.injEq, Result.ok.injEq] at this
    rw [← this.1.1]
    exact .enter f args hf
  | none =>
    simp only [hb, Option.isNone_none, if_true, hnext hb, mark, Sem.bind, Sem.runT] at h
    cases he : Extern.find fn with
    | some e =>
      simp only [he] at h
      obtain ⟨u, rfl⟩ := value_shape (s := e args) h
      exact .value u
    | none =>
      simp only [he] at h
      split at h
      · have : (Result.ok (Next.value (.tuple #[])) w, es.push ⟨.mark (.extern f), false, true⟩) = (Result.ok x w', es') := h
        simp only [Prod.mk.injEq, Result.ok.injEq] at this
        rw [← this.1.1]
        exact .value _
      · simp only [unsupported, Sem.runT] at h
        cases h

theorem mild_shape (hP : MildP P L) (ρ : Operand → Value) (hρ : ∀ f, ρ (.func f) = .func (.func f) #[] #[]) {o : Oper} (h : mildOp L o = true) {w w' : World} {es es' : Array Event} {x : Next} (hr : (execOp ρ o).runT P w es = (.ok x w', es')) : Mild L x := by
  obtain ⟨dst, op, type, pos, after, guard⟩ := o
  have vs : ∀ {s : Sem Value}, (do pure (.value (← s)) : Sem Next).runT P w es = (.ok x w', es') → Mild L x := fun h => by
    obtain ⟨u, rfl⟩ := value_shape h
    exact .value u
  cases op with
  | move y =>
    have : (Result.ok (Next.value (ρ y)) w, es) = _ := hr
    simp only [Prod.mk.injEq, Result.ok.injEq] at this
    rw [← this.1.1]; exact .value _
  | assign y =>
    have : (Result.ok (Next.value (ρ y)) w, es) = _ := hr
    simp only [Prod.mk.injEq, Result.ok.injEq] at this
    rw [← this.1.1]; exact .value _
  | pick c a b => exact vs (s := do pure (if ← asBool (ρ c) then ρ a else ρ b)) (by
      rw [← hr]
      show Sem.runT P (Sem.bind (Sem.bind _ _) _) _ _ = Sem.runT P (Sem.bind _ _) _ _
      rw [Sem.bind_assoc']
      rfl)
  | store t a x => rw [skip_shape hr]; exact .skip
  | go c =>
    have h' : ((resolve ρ c type).bind fun d => (pure (Next.spawn d) : Sem Next)).runT P w es = (.ok x w', es') := hr
    rw [Sem.runT_bind'] at h'
    split at h'
    · rename_i d _ _ _
      have : (Result.ok (Next.spawn d) _, _) = _ := h'
      simp only [Prod.mk.injEq, Result.ok.injEq] at this
      rw [← this.1.1]; exact .spawn _
    · cases h'
  | defer c =>
    obtain ⟨callee, args, ats⟩ := c
    cases callee with
    | value f =>
      cases f with
      | func f =>
        simp only [mildOp, List.contains_iff_mem] at h
        have : (Result.ok (Next.defer { target := .fn (.func f) #[], args := #[] ++ args.map ρ }) w, es) = (Result.ok x w', es') := by
          rw [← hr]
          show _ = (do pure (.defer (← (Deferred.ofValue (ρ (.func f)) (args.map ρ) : Sem Deferred))) : Sem Next).runT P w es
          rw [hρ]
          rfl
        simp only [Prod.mk.injEq, Result.ok.injEq] at this
        rw [← this.1.1]
        exact .defer f _ h
      | _ => cases h
    | _ => cases h
  | call c =>
    obtain ⟨callee, args, ats⟩ := c
    cases callee with
    | value f =>
      cases f with
      | func f =>
        simp only [mildOp, List.contains_iff_mem] at h
        have e : execOp ρ { dst, op := .call { callee := .value (.func f), args, argTypes := ats }, type, pos, after, guard } = callFunc f ((#[] ++ args.map ρ) ++ #[]) := by
          show (do let d ← Deferred.ofValue (ρ (.func f)) (args.map ρ); invoke d.target d.args : Sem Next) = _
          rw [hρ]
          rfl
        rw [e] at hr
        exact callFunc_mild hP h hr
      | _ => cases h
    | invoke r n => cases h
    | builtin b => cases b <;> first | (cases h; done) | exact vs hr
  | nilCheck y =>
    have key : ∀ v : Value, (match v with
        | .pointer none | .nilIface | .nilFunc => runtimePanic .nilDeref
        | .func (.method name) first captured =>
          match (first[0]? : Option Value) with
          | some .nilIface => runtimePanic .nilDeref
          | some (.iface t w) => do
            if (← nilAhead ((← program).types.size + Made.depth) t w name) != some false then
              unsupported (.noEntry "op/nilCheck.the method's receiver behind this interface value is a nil pointer, or cannot be seen to be none, and the arguments act or may panic (ledger 612)")
            pure (.value (.func (.method name) first captured))
          | _ => pure (.value (.func (.method name) first captured))
        | x => pure (.value x) : Sem Next).runT P w es = (.ok x w', es') → Mild L x := by
      intro v hv
      have pan : ∀ {w w' es es'}, (runtimePanic .nilDeref : Sem Next).runT P w es = (.ok x w', es') → Mild L x := fun h => by
        simp only [runtimePanic, program, bind, Sem.bind, Sem.runT, goPanic] at h
        cases h
      have pv : ∀ {u w w' es es'}, (pure (.value u) : Sem Next).runT P w es = (.ok x w', es') → Mild L x := fun {u w w' es es'} h => by
        have : (Result.ok (Next.value u) w, es) = (Result.ok x w', es') := h
        simp only [Prod.mk.injEq, Result.ok.injEq] at this
        rw [← this.1.1]; exact .value _
      split at hv
      · exact pan hv
      · exact pan hv
      · exact pan hv
      · split at hv
        · exact pan hv
        · refine shape_bind (Q := Mild L) (fun a w w' es es' x h => ?_) hv
          have pv' : ∀ {u w w' es es' x}, (pure (.value u) : Sem Next).runT P w es = (.ok x w', es') → Mild L x := fun {u w w' es es' x} h => by
            have : (Result.ok (Next.value u) w, es) = (Result.ok x w', es') := h
            simp only [Prod.mk.injEq, Result.ok.injEq] at this
            rw [← this.1.1]; exact .value _
          refine shape_bind (Q := Mild L) (fun a w w' es es' x h => ?_) h
          dsimp only at h
          split at h
          · exact shape_bind (Q := Mild L) (fun a w w' es es' x h => pv' h) h
          · exact pv' h
        · exact pv hv
      · exact pv hv
    exact key _ hr
  | alloc e => exact vs hr
  | box e x => exact vs hr
  | build t p => exact vs hr
  | buildSlice t n p => exact vs hr
  | load t a => exact vs hr
  | unOp u t x => exact vs hr
  | makeFunc f a b => exact vs hr
  | makeSlice t l c => exact vs hr
  | extract t i => exact vs hr
  | index t x i => exact vs hr
  | indexAddr t x i => exact vs hr
  | fieldAddr t x f => exact vs hr
  | binOp b t x y z => exact vs hr
  | convert s d x => exact vs hr
  | makeInterface t x => exact vs hr
  | panic x => exact vs hr
  | _ => cases h
/-! ### frames -/
structure MildF (P : Program) (L : List FuncId) (fr : Frame) : Prop where
  fine : ∃ fn, P.funcs[fr.fn]? = some fn
  defers : ∀ d ∈ fr.defers, ∃ f args, f ∈ L ∧ d = { target := .fn (.func f) #[], args := args }
  round : fr.roundOf = none
  kind : fr.kind = .normal ∨ fr.kind = .deferred
  todo : ∀ it ∈ fr.todo, itemMild L it = true

theorem MildF.finish {fr : Frame} (h : MildF P L fr) (u : Value) : MildF P L (fr.finish u) := by
  obtain ⟨fn, tmps, todo, defers, mode, kind, roundOf⟩ := fr
  obtain ⟨h1, h2, h3, h4, h5⟩ := h
  simp only at h1 h2 h3 h4 h5
  unfold Frame.finish
  dsimp only
  split
  · rename_i ops i r k
    refine ⟨h1, h2, h3, h4, fun it hit => ?_⟩
    simp only [List.mem_cons] at hit
    rcases hit with rfl | hit
    · exact h5 (.inRegion ops (i :: r)) (by simp)
    · exact h5 it (List.mem_cons_of_mem _ hit)
  · rename_i r k; cases h5 (.inRangeFunc r) (by simp)
  · rename_i k; cases h5 .beginRound (by simp)
  · rename_i a b c d k; cases h5 (.call a b c d) (by simp)
  · rename_i a b k; cases h5 (.extern a b) (by simp)
  · exact ⟨h1, h2, h3, h4, h5⟩
theorem MildF.raise {fr : Frame} (h : MildF P L fr) (c : List PanicEntry) : MildF P L (fr.raise c) := by
  unfold Frame.raise
  split <;> exact ⟨h.fine, h.defers, h.round, h.kind, h.todo⟩
theorem MildF.enter (hP : MildP P L) {f : FuncId} (hf : f ∈ L) (args : Array Value) {kind : CallKind} (hk : kind = .normal ∨ kind = .deferred) : MildF P L (Frame.enter P f args kind) := by
  obtain ⟨fn, hF, _, hb, _⟩ := hP.fns f hf
  refine ⟨⟨fn, hF⟩, by simp [Frame.enter], rfl, hk, fun it hit => ?_⟩
  simp only [Frame.enter, hF, Option.bind_some, List.mem_singleton] at hit
  subst hit
  cases h : fn.body with
  | none => rfl
  | some c => exact hb c h

/-- A step that ends the run, but not by a return; or from which the run dies by a fatal error. -/
def BadStep (s : GStep) : Prop := (∃ o w' es, s = .ended o w' es ∧ ∀ v, o ≠ .done v) ∨ ∃ g' w' es d, s = .go g' w' es ∧ g'.dying = some d ∧ d.calling = false ∧ d.fatal.isSome = true

/-- How a step comes out, whatever lies below. -/
inductive Natural (P : Program) (L : List FuncId) (fr : Frame) (k : List Frame) (w : World) : Prop
  | on (fr' : Frame) (k' : List Frame) (st : GoStatus) (w' : World) (es : Array Event) : MildF P L fr' → (∀ x ∈ k', MildF P L x) → (k' = k ∨ k = [] ∨ True) →
      (∀ m, stepG P true (G fr (k ++ m)) w = .go { frame := fr', callers := k' ++ m, status := st, dying := none } w' es) → Natural P L fr k w
  | spawn (fr' : Frame) (child : Goroutine) (w' : World) (es : Array Event) : MildF P L fr' → (∀ m, stepG P true (G fr (k ++ m)) w = .spawn (G fr' (k ++ m)) child w' es) → Natural P L fr k w
  | back (u : Value) (w' : World) (es : Array Event) : k = [] → fr.kind = .normal → (∀ c l, stepG P true (G fr (c :: l)) w = .go (G (c.finish u) l) w' es) → Natural P L fr k w
  | backD (w' : World) (es : Array Event) : k = [] → fr.kind = .deferred → (∀ c l, c.mode = .run → stepG P true (G fr (c :: l)) w = .go (G c l) w' es) → Natural P L fr k w
  | raise (chain : List PanicEntry) (es : Array Event) : k = [] → (∀ c l, stepG P true (G fr (c :: l)) w = .go (G (c.raise chain) l) w es) → Natural P L fr k w
  | bad : (∀ m, BadStep (stepG P true (G fr (k ++ m)) w)) → Natural P L fr k w

theorem BadStep.after {s : GStep} (h : BadStep s) (es : Array Event) : BadStep (GStep.after es s) := by
  rcases h with ⟨o, w', e, rfl, h⟩ | ⟨g', w', e, d, rfl, h⟩
  · exact .inl ⟨_, _, _, rfl, h⟩
  · exact .inr ⟨_, _, _, _, rfl, h⟩
theorem BadStep.ended {o : Outcome} {w : World} {es : Array Event} (h : ∀ v, o ≠ .done v) : BadStep (.ended o w es) := .inl ⟨_, _, _, rfl, h⟩
theorem dieOf_bad (fr : Frame) (a : List ByteArray) (m : String) (b : Bool) (w : World) : BadStep (dieOf fr a m b w) := .inr ⟨_, _, _, _, rfl, rfl, rfl, rfl⟩
theorem endFatal_bad (p : Program) (fr : Frame) (cs : List Frame) (m : String) (w : World) : BadStep (endFatal p fr cs none m w) := by
  unfold endFatal
  dsimp only
  split
  · exact dieOf_bad _ _ _ _ _
  · exact .ended (by simp)
  · exact .ended (by simp)
theorem early_bad {p : Program} (ha : p.follows .staticDataAhead = true) (hs : ∀ g, p.stepOf g = none) (fr : Frame) (l : List Frame) (k : Nat) (w : World) : BadStep (early p fr l none k w) := by
  unfold early
  simp only [ha, hs, Bool.not_true, Bool.false_eq_true, if_false]
  exact .ended (by simp)

/-- A tree that is carried out by an operation. -/
theorem nat_apply (hP : MildP P L) {fr : Frame} {k : List Frame} (hf : MildF P L fr) (hk : ∀ x ∈ k, MildF P L x) {s : Sem Next} {w : World} (hs : ∀ x w' es, s.runT P w #[] = (.ok x w', es) → Mild L x) {ops : Array Oper} {i : Nat} {r : List Nat} {kk : List Item} (ht : fr.todo = .inRegion ops (i :: r) :: kk)
    (hst : ∀ m, stepG P true (G fr (k ++ m)) w = stepG.apply P true fr (k ++ m) none s w) : Natural P L fr k w := by
  have hne : (fr.kind == CallKind.early) = false := by rcases hf.kind with h | h <;> rw [h] <;> rfl
  generalize hr : s.runT P w #[] = res at hs
  obtain ⟨res, es⟩ := res
  cases res with
  | ok x w' =>
    cases hs x w' es rfl with
    | value u => exact .on (fr.finish u) k .running w' (seen P fr.fn es) (hf.finish u) hk (.inl rfl) fun m => by rw [hst]; simp [stepG.apply, hr, hne, GStep.after, -Sem.runT_eq]
    | skip => exact .on (fr.finish undef) k .running w' (seen P fr.fn es) (hf.finish undef) hk (.inl rfl) fun m => by rw [hst]; simp [stepG.apply, hr, hne, GStep.after, -Sem.runT_eq]
    | enter f args hL =>
      refine .on (Frame.enter P f args .normal) (fr :: k) .running w' (seen P fr.fn es) (MildF.enter hP hL args (.inl rfl)) (fun x hx => ?_) (.inr (.inr trivial)) fun m => by rw [hst]; simp [stepG.apply, hr, hne, GStep.after, ht, -Sem.runT_eq]
      rcases List.mem_cons.1 hx with rfl | hx
      · exact hf
      · exact hk x hx
    | defer f args hL =>
      refine .on ({ fr with defers := { target := .fn (.func f) #[], args } :: fr.defers }.finish undef) k .running w' (seen P fr.fn es) (MildF.finish (fr := { fr with defers := { target := .fn (.func f) #[], args } :: fr.defers }) ⟨hf.fine, fun d hd => ?_, hf.round, hf.kind, hf.todo⟩ undef) hk (.inl rfl) fun m => by rw [hst]; simp [stepG.apply, hr, hne, GStep.after, -Sem.runT_eq]
      simp only [List.mem_cons] at hd
      rcases hd with rfl | hd
      · exact ⟨f, args, hL, rfl⟩
      · exact hf.defers d hd
    | spawn d =>
      have key : ∃ (b : Bool) (child : Goroutine), ∀ m, stepG.apply P true fr (k ++ m) none s w = GStep.after (seen P fr.fn es) (if b = true then endThrow fr "go of nil func value" w' else .spawn { frame := fr.finish undef, callers := k ++ m, status := .running, dying := none } child w') := by
        refine ⟨P.follows .goNilFatal && (match d.target with | .nil => true | _ => false) && d.args.isEmpty && fr.noResult P, { frame := { (default : Frame) with fn := P.funcs.size, defers := [d], mode := .panicking [goexitEntry] }, callers := [], status := .running, dying := none }, fun m => ?_⟩
        unfold stepG.apply
        simp only [hr, hne, if_true, Bool.false_eq_true, if_false]
        rfl
      obtain ⟨b, child, key⟩ := key
      cases b with
      | true => exact .bad fun m => by rw [hst, key]; exact BadStep.after (dieOf_bad _ _ _ _ _) _
      | false => exact .spawn (fr.finish undef) child w' (seen P fr.fn es) (hf.finish undef) fun m => by rw [hst, key]; simp [GStep.after, G]
  | halt x w' =>
    cases x with
    | panic u => exact .on (fr.raise [{ v := u, recovered := false }]) k .running w' (seen P fr.fn es) (hf.raise _) hk (.inl rfl) fun m => by rw [hst]; simp [stepG.apply, hr, hne, GStep.after, -Sem.runT_eq]
    | goexit => exact .on (fr.raise [goexitEntry]) k .running w' (seen P fr.fn es) (hf.raise _) hk (.inl rfl) fun m => by rw [hst]; simp [stepG.apply, hr, hne, GStep.after, -Sem.runT_eq]
    | blocked => exact .on fr k .blocked w' (seen P fr.fn #[]) hf hk (.inl rfl) fun m => by rw [hst]; simp [stepG.apply, hr, hne, GStep.after, -Sem.runT_eq]
    | waiting => exact .on fr k .waiting w' (seen P fr.fn #[]) hf hk (.inl rfl) fun m => by rw [hst]; simp [stepG.apply, hr, hne, GStep.after, -Sem.runT_eq]
    | exit c =>
      refine .bad fun m => ?_
      rw [hst]; unfold stepG.apply; simp only [hr, if_true]
      exact BadStep.after (.ended (by simp)) _
    | fatal c =>
      refine .bad fun m => ?_
      rw [hst]; unfold stepG.apply; simp only [hr, if_true]
      exact BadStep.after (endFatal_bad _ _ _ _ _) _
    | throw c =>
      refine .bad fun m => ?_
      rw [hst]; unfold stepG.apply; simp only [hr, if_true]
      exact BadStep.after (dieOf_bad _ _ _ _ _) _
    | unsupported u =>
      refine .bad fun m => ?_
      rw [hst]; unfold stepG.apply; simp only [hr, if_true]
      refine BadStep.after ?_ _
      cases u <;> first | exact early_bad hP.ahead hP.step _ _ _ _ | exact .ended (by simp)
    | stuck c =>
      refine .bad fun m => ?_
      rw [hst]; unfold stepG.apply; simp only [hr, if_true]
      exact BadStep.after (.ended (by simp)) _
end
end Go.Veiled

namespace Go.Veiled
set_option linter.unusedSimpArgs false
set_option linter.unusedSectionVars false
set_option linter.unusedVariables false
open Go.Conc

section
variable {P : Program} {L : List FuncId}

theorem nat_unwind (hP : MildP P L) {fr : Frame} {k : List Frame} (hf : MildF P L fr) (hk : ∀ x ∈ k, MildF P L x) (hm : fr.mode = .returning ∨ ∃ ch, fr.mode = .panicking ch) (w : World) : Natural P L fr k w := by
  have hst : ∀ m, stepG P true (G fr (k ++ m)) w = unwind P true fr (k ++ m) none w := fun m => by
    rcases hm with h | ⟨ch, h⟩ <;> simp [G, stepG, h]
  have hne : (fr.kind == CallKind.early) = false := by rcases hf.kind with h | h <;> rw [h] <;> rfl
  cases hd : fr.defers with
  | cons d ds =>
    -- a deferred call
    obtain ⟨f, args, hL, rfl⟩ := hf.defers d (by rw [hd]; simp)
    have hf' : MildF P L { fr with defers := ds } := ⟨hf.fine, fun d hd' => hf.defers d (by rw [hd]; exact List.mem_cons_of_mem _ hd'), hf.round, hf.kind, hf.todo⟩
    have hun : ∀ m, stepG P true (G fr (k ++ m)) w = callDeferred P { fr with defers := ds } (k ++ m) none { target := .fn (.func f) #[], args } w := fun m => by
      rw [hst]; unfold unwind; rw [hd]
    have hmi : ∀ x w' es, (invoke (.fn (.func f) #[]) args).runT P w #[] = (.ok x w', es) → Mild L x := fun x w' es h => callFunc_mild hP hL (show (callFunc f (args ++ #[])).runT P w #[] = _ from h)
    generalize hr : (invoke (.fn (.func f) #[]) args).runT P w #[] = res at hmi
    obtain ⟨res, es⟩ := res
    cases res with
    | ok x w' =>
      cases hmi x w' es rfl with
      | value u => exact .on { fr with defers := ds } k .running w' (seen P fr.fn es) hf' hk (.inl rfl) fun m => by rw [hun]; simp [callDeferred, hr, GStep.after, -Sem.runT_eq]
      | skip => exact .on { fr with defers := ds } k .running w' (seen P fr.fn es) hf' hk (.inl rfl) fun m => by rw [hun]; simp [callDeferred, hr, GStep.after, -Sem.runT_eq]
      | enter g gargs hg =>
        refine .on (Frame.enter P g gargs .deferred) ({ fr with defers := ds } :: k) .running w' (seen P fr.fn es) (MildF.enter hP hg gargs (.inr rfl)) (fun x hx => ?_) (.inr (.inr trivial)) fun m => by rw [hun]; simp [callDeferred, hr, GStep.after, -Sem.runT_eq]
        rcases List.mem_cons.1 hx with rfl | hx
        · exact hf'
        · exact hk x hx
      | defer g gargs hg => exact .on { fr with defers := ds } k .running w' (seen P fr.fn es) hf' hk (.inl rfl) fun m => by rw [hun]; simp [callDeferred, hr, GStep.after, -Sem.runT_eq]
      | spawn d => exact .on { fr with defers := ds } k .running w' (seen P fr.fn es) hf' hk (.inl rfl) fun m => by rw [hun]; simp [callDeferred, hr, GStep.after, -Sem.runT_eq]
    | halt x w' =>
      cases x with
      | panic u => exact .on (Frame.raise { fr with defers := ds } [{ v := u, recovered := false }]) k .running w' (seen P fr.fn es) (hf'.raise _) hk (.inl rfl) fun m => by rw [hun]; simp [callDeferred, hr, GStep.after, -Sem.runT_eq]
      | goexit => exact .on (Frame.raise { fr with defers := ds } [goexitEntry]) k .running w' (seen P fr.fn es) (hf'.raise _) hk (.inl rfl) fun m => by rw [hun]; simp [callDeferred, hr, GStep.after, -Sem.runT_eq]
      | blocked => exact .on fr k .blocked w' (seen P fr.fn #[]) hf hk (.inl rfl) fun m => by rw [hun]; simp [callDeferred, hr, GStep.after, -Sem.runT_eq, ← hd]
      | waiting => exact .on fr k .waiting w' (seen P fr.fn #[]) hf hk (.inl rfl) fun m => by rw [hun]; simp [callDeferred, hr, GStep.after, -Sem.runT_eq, ← hd]
      | exit c => exact .bad fun m => by rw [hun]; unfold callDeferred; simp only [Bool.false_and, Bool.false_eq_true, if_false, hr]; exact BadStep.after (.ended (by simp)) _
      | fatal c => exact .bad fun m => by rw [hun]; unfold callDeferred; simp only [Bool.false_and, Bool.false_eq_true, if_false, hr]; exact BadStep.after (endFatal_bad _ _ _ _ _) _
      | throw c => exact .bad fun m => by rw [hun]; unfold callDeferred; simp only [Bool.false_and, Bool.false_eq_true, if_false, hr]; exact BadStep.after (dieOf_bad _ _ _ _ _) _
      | unsupported c => exact .bad fun m => by rw [hun]; unfold callDeferred; simp only [Bool.false_and, Bool.false_eq_true, if_false, hr]; exact BadStep.after (.ended (by simp)) _
      | stuck c => exact .bad fun m => by rw [hun]; unfold callDeferred; simp only [Bool.false_and, Bool.false_eq_true, if_false, hr]; exact BadStep.after (.ended (by simp)) _
  | nil =>
    obtain ⟨fn, hF⟩ := hf.fine
    rcases hm with hm | ⟨ch, hm⟩
    · -- a return
      generalize hr : (results fn fr.tmps).runT P w #[] = res
      obtain ⟨res, es⟩ := res
      cases res with
      | halt x w' =>
        exact .bad fun m => by
          rw [hst]
          cases x <;> (simp only [unwind, hd, hm, hF, hr]; exact BadStep.after (.ended (by simp)) _)
      | ok u w' =>
        cases k with
        | nil =>
          rcases hf.kind with hkd | hkd
          · exact .back u w' (seen P fr.fn es) rfl hkd fun c l => by
              have := hst (c :: l)
              simp only [List.nil_append] at this
              rw [this]
              simp [unwind, hd, hm, hF, hr, doReturn, hkd, GStep.after, G, -Sem.runT_eq]
          · exact .backD w' (seen P fr.fn es) rfl hkd fun c l hc => by
              have := hst (c :: l)
              simp only [List.nil_append] at this
              rw [this]
              simp [unwind, hd, hm, hF, hr, doReturn, hkd, hc, GStep.after, G, -Sem.runT_eq]
        | cons c k =>
          have hc := hk c (by simp)
          have hk' : ∀ x ∈ k, MildF P L x := fun x hx => hk x (List.mem_cons_of_mem _ hx)
          rcases hf.kind with hkd | hkd
          · exact .on (c.finish u) k .running w' (seen P fr.fn es) (hc.finish u) hk' (.inr (.inr trivial)) fun m => by
              rw [hst]
              simp [unwind, hd, hm, hF, hr, doReturn, hkd, GStep.after, -Sem.runT_eq]
          · -- a deferred call's return
            have key : ∃ c' : Frame, MildF P L c' ∧ ∀ m, stepG P true (G fr ((c :: k) ++ m)) w = .go { frame := c', callers := k ++ m, status := .running, dying := none } w' (seen P fr.fn es) := by
              refine ⟨(match c.mode with
                | .panicking ({ recovered := true, .. } :: older) =>
                  match older.dropWhile (!·.goexit) with
                  | [] => { c with mode := .returning }
                  | rest => { c with mode := .panicking rest }
                | _ => c), ?_, fun m => ?_⟩
              · split
                · split <;> exact ⟨hc.fine, hc.defers, hc.round, hc.kind, hc.todo⟩
                · exact hc
              · rw [hst]
                simp only [unwind, hd, hm, hF, hr, doReturn, hkd, List.cons_append, GStep.after, Array.append_empty]
                rfl
            obtain ⟨c', h1, h2⟩ := key
            exact .on c' k .running w' (seen P fr.fn es) h1 hk' (.inr (.inr trivial)) h2
    · -- a panic goes down
      have hcat : fr.catches P = false := by
        unfold Frame.catches
        rw [hF]
      cases k with
      | nil =>
        exact .raise ch #[] rfl fun c l => by
          have := hst (c :: l)
          simp only [List.nil_append] at this
          rw [this]
          simp [unwind, hd, hm, hcat, G]
      | cons c k =>
        exact .on (c.raise ch) k .running w #[] ((hk c (by simp)).raise ch) (fun x hx => hk x (List.mem_cons_of_mem _ hx)) (.inr (.inr trivial)) fun m => by
          rw [hst]
          simp [unwind, hd, hm, hcat]
theorem nat_run (hP : MildP P L) {fr : Frame} {k : List Frame} (hf : MildF P L fr) (hk : ∀ x ∈ k, MildF P L x) (hm : fr.mode = .run) (w : World) : Natural P L fr k w := by
  have to : ∀ (todo : List Item), (∀ it ∈ todo, itemMild L it = true) → (∀ l, stepG P true (G fr l) w = .go (G { fr with todo := todo } l) w) → Natural P L fr k w := fun todo h1 h2 =>
    .on { fr with todo := todo } k .running w #[] ⟨hf.fine, hf.defers, hf.round, hf.kind, h1⟩ hk (.inl rfl) fun m => h2 (k ++ m)
  have leaves : (∀ l, stepG P true (G fr l) w = .go (G { fr with mode := .returning } l) w) → Natural P L fr k w := fun h2 =>
    .on { fr with mode := .returning } k .running w #[] ⟨hf.fine, hf.defers, hf.round, hf.kind, hf.todo⟩ hk (.inl rfl) fun m => h2 (k ++ m)
  have stop : (∀ l, ∃ o es, stepG P true (G fr l) w = .ended o w es ∧ ∀ v, o ≠ .done v) → Natural P L fr k w := fun h => .bad fun m => by
    obtain ⟨o, es, h1, h2⟩ := h (k ++ m)
    exact .inl ⟨o, w, es, h1, h2⟩
  have htodo := hf.todo
  obtain ⟨fn, tmps, todo, defers, mode, kind, roundOf⟩ := fr
  obtain ⟨rfl, hfine, hdef, hkind⟩ := (show roundOf = none ∧ (∃ g, P.funcs[fn]? = some g) ∧ (∀ d ∈ defers, ∃ f args, f ∈ L ∧ d = { target := .fn (.func f) #[], args := args }) ∧ (kind = .normal ∨ kind = .deferred) from ⟨hf.round, hf.fine, hf.defers, hf.kind⟩)
  simp only at hm
  subst hm
  simp only at htodo to leaves stop
  cases todo with
  | nil => exact leaves fun l => by simp [G, stepG, stepG.exec]
  | cons it kk =>
    have hkk : ∀ x ∈ kk, itemMild L x = true := fun x hx => htodo x (List.mem_cons_of_mem _ hx)
    have hit := htodo it (by simp)
    have hcons : ∀ {x : Item} {m : List Item}, itemMild L x = true → (∀ y ∈ m, itemMild L y = true) → ∀ y ∈ x :: m, itemMild L y = true := fun hx hm y hy => by
      simp only [List.mem_cons] at hy
      rcases hy with rfl | hy
      · exact hx
      · exact hm y hy
    cases it with
    | inBlock id => exact to kk hkk fun l => by simp [G, stepG, stepG.exec]
    | inScope c => cases hit
    | inLoop c => exact to (.code c :: .inLoop c :: kk) (hcons hit (hcons hit hkk)) fun l => by simp [G, stepG, stepG.exec]
    | inRangeFunc l => cases hit
    | endRangeFunc l => cases hit
    | beginRound => cases hit
    | call d w r s => cases hit
    | extern r a => cases hit
    | inRegion ops todo =>
      cases todo with
      | nil => exact to kk hkk fun l => by simp [G, stepG, stepG.exec]
      | cons i r =>
        by_cases hw : ((ops[i]?).map (Region.wanted · (yielded ops tmps))).getD false = true
        · obtain ⟨o, ho⟩ := wanted_some hw
          have hw' := hw
          rw [ho] at hw'
          have hwt : Region.wanted o (yielded ops tmps) = true := hw'
          have hmo : mildOp L o = true := by
            simp only [itemMild, List.all_eq_true] at hit
            exact hit o (by simpa using Array.mem_of_getElem? ho)
          refine nat_apply hP hf hk (s := execOp (Frame.eval { fn, tmps, todo := .inRegion ops (i :: r) :: kk, defers, mode := .run, kind, roundOf := none }) o) (fun x w' es h => mild_shape hP _ (fun f => rfl) hmo h) rfl fun m => ?_
          simp [G, stepG, stepG.exec, stepG.oper, Frame.oper?, ho, hwt]
        · have hw' : ((ops[i]?).map (Region.wanted · (yielded ops tmps))).getD false = false := by simpa using hw
          refine .on { fn, tmps := (match (ops[i]?).bind (·.dst) with | some d => tmps.setIfInBounds d undef | none => tmps), todo := .inRegion ops r :: kk, defers, mode := .run, kind, roundOf := none } k .running w #[]
            ⟨hfine, hdef, rfl, hkind, hcons hit hkk⟩ hk (.inl rfl) fun m => ?_
          simp [G, stepG, stepG.exec, hw', Frame.finish]
          rfl
    | code c =>
      cases c with
      | skip => exact to kk hkk fun l => by simp [G, stepG, stepG.exec]
      | label n => exact to kk hkk fun l => by simp [G, stepG, stepG.exec]
      | ret => exact leaves fun l => by simp [G, stepG, stepG.exec]
      | refuse why => exact stop fun l => ⟨_, _, by simp [G, stepG, stepG.exec]; exact ⟨rfl, rfl⟩, by simp⟩
      | seq a b =>
        simp only [itemMild, codeMild, Bool.and_eq_true] at hit
        exact to (.code a :: .code b :: kk) (hcons hit.1 (hcons hit.2 hkk)) fun l => by simp [G, stepG, stepG.exec]
      | block id b => exact to (.code b :: .inBlock id :: kk) (hcons hit (hcons rfl hkk)) fun l => by simp [G, stepG, stepG.exec]
      | loop b => exact to (.code b :: .inLoop b :: kk) (hcons hit (hcons hit hkk)) fun l => by simp [G, stepG, stepG.exec]
      | scope b => cases hit
      | rangeFunc f ps a b => cases hit
      | goto n => cases hit
      | exit id =>
        cases he : exitTo id kk with
        | some k' => exact to k' (exitTo_mild he hkk) fun l => by simp [G, stepG, stepG.exec, he]
        | none => exact stop fun l => ⟨_, _, by simp [G, stepG, stepG.exec, he]; exact ⟨rfl, rfl⟩, by simp⟩
      | cond c a b =>
        simp only [itemMild, codeMild, Bool.and_eq_true] at hit
        cases he : Frame.eval { fn, tmps, todo := .code (.cond c a b) :: kk, defers, mode := .run, kind, roundOf := none } c with
        | bool t =>
          refine to (.code (if t then a else b) :: kk) (hcons (by cases t <;> simp [itemMild, hit.1, hit.2]) hkk) fun l => ?_
          simp [G, stepG, stepG.exec, he]
        | _ => exact stop fun l => ⟨_, _, by simp [G, stepG, stepG.exec, he]; exact ⟨rfl, rfl⟩, by simp⟩
      | region id ops draw =>
        cases draw with
        | false => exact to (.inRegion ops (List.range ops.size) :: kk) (hcons hit hkk) fun l => by simp [G, stepG, stepG.exec]
        | true =>
          refine .on { fn, tmps, todo := .inRegion ops (Region.schedule (Tables.follows P.toTables .mixedOrders) ops (w.tape w.drawn (.order fn id))) :: kk, defers, mode := .run, kind, roundOf := none } k .running { w with drawn := w.drawn + 1 } #[]
            ⟨hfine, hdef, rfl, hkind, hcons hit hkk⟩ hk (.inl rfl) fun m => ?_
          simp [G, stepG, stepG.exec, choose, Sem.run, Question.forced, Question.cut]

theorem nat_step (hP : MildP P L) {fr : Frame} {k : List Frame} (hf : MildF P L fr) (hk : ∀ x ∈ k, MildF P L x) (w : World) : Natural P L fr k w := by
  cases hm : fr.mode with
  | run => exact nat_run hP hf hk hm w
  | returning => exact nat_unwind hP hf hk (.inl hm) w
  | panicking ch => exact nat_unwind hP hf hk (.inr ⟨ch, hm⟩) w
end
end Go.Veiled

namespace Go.Veiled
set_option linter.unusedSimpArgs false
set_option linter.unusedSectionVars false
set_option linter.unusedVariables false
open Go.Conc Go.ConcN
open Go.ConcR (KK wgBlock WgAt stA smA rd wr mk Payload Aside2 DC0)
variable [Payload]

section
variable {P : Program} {ty : TypeId} {Wg C n : Nat} {Own Rd : Nat → Loc → Prop} {Lw : Nat → Nat} {val : Nat → Value} {vals : List Value} {AnchW : Goroutine → World → Prop} {Post : Value → World → Prop}
  {gs : Array Goroutine} {w : World} {j : Nat} {D : Nat → WD} {tag : CTag} {f0 d0 : Nat} {a : Goroutine} {t : Trace} {st sm : Int}

theorem goes_cases {main : Bool} {R : World → World → Prop} {Dd : World → World → Array Event → Prop} {Stop : Goroutine → World → Prop} {m : Nat} {g : Goroutine} {w : World} (hr : R w w) (h : Goes P main R Dd Stop m g w) :
    Stop g w ∨ ∃ g' w' es, stepG P main g w = .go g' w' es := by
  cases m with
  | zero => exact .inl (h w hr)
  | succ m =>
    rcases h with h | ⟨_, h⟩
    · exact .inl (h w hr)
    · right
      have := h w hr
      cases hs : stepG P main g w with
      | go g' w' es => exact ⟨g', w', es, rfl⟩
      | _ => rw [hs] at this; exact this.elim

/-- A worker that runs takes a step of its own. -/
theorem worker_goes (hcs : CSit P ty Wg C n Own Rd Lw val vals AnchW Post tag j f0 d0 a w) (hn : n < 2147483648) (hcom : Com P ty Wg C n Own Rd Lw val j gs w t D d0) (hwg : WgAt ty Wg w st sm) (hmode : ConcN.Mode j D tag st sm)
    {i : Nat} (hi : i < j) {g : Goroutine} (hg : gs[i + 1]? = some g) (hrun : g.status = .running) : ∃ g' w' es, stepG P false g w = .go g' w' es := by
  obtain ⟨g₁, hg₁, hs⟩ := hcom.wk i hi
  obtain rfl : g = g₁ := by rw [hg] at hg₁; exact Option.some.inj hg₁
  generalize hst : (D i).stage = s at hs
  generalize hfu : (D i).fuel = m at hs
  generalize hde : (D i).deaf = dd at hs
  have hb := hcs.bound
  have hVj := Vc_le j D
  cases hs with
  | r0 h =>
    rcases goes_cases (RW.refl w) h with ⟨_, _, g', hgo, _⟩ | h
    · exact ⟨g', _, _, hgo⟩
    · exact h
  | k1 h =>
    rcases goes_cases (RW.refl w) h with ⟨_, g', hgo, _⟩ | h
    · exact ⟨g', _, _, hgo⟩
    · exact h
  | d1 h =>
    rcases goes_cases (RW.refl w) h with ⟨_, hall⟩ | h
    · have hc1 : cnt (D i) = 1 := by simp [cnt, hst]
      have hV1 : 1 ≤ Vc j D := by have := le_sumTo (f := fun x => cnt (D x)) hi; simp only [Vc]; omega
      cases hmode with
      | opn h1 h2 h3 =>
        obtain ⟨v, hv⟩ : ∃ v, Vc j D + pend tag = v + 1 := ⟨Vc j D + pend tag - 1, by omega⟩
        rw [hv] at hwg
        have hw1 : WgAt ty Wg w (((v : Nat) + 1) * KK + ((0 : Nat) : Int)) 0 := by simpa using hwg
        obtain ⟨g', hgo, _⟩ := hall v 0 (by omega) (by omega) hw1
        exact ⟨g', _, _, hgo⟩
      | reg h1 h2 h3 =>
        obtain ⟨v, hv⟩ : ∃ v, Vc j D = v + 1 := ⟨Vc j D - 1, by omega⟩
        rw [hv] at hwg
        have hw1 : WgAt ty Wg w (((v : Nat) + 1) * KK + ((1 : Nat) : Int)) 0 := by simpa using hwg
        obtain ⟨g', hgo, _⟩ := hall v 1 (by omega) (by omega) hw1
        exact ⟨g', _, _, hgo⟩
      | last L' h1 h2 h3 h4 =>
        exfalso
        by_cases e : i = L'
        · subst e; omega
        · have := h4 i hi e; omega
      | sema h => exfalso; have := h i hi; omega
      | fin _ h => exfalso; have := h i hi; omega
    · exact h
  | d2 h =>
    rcases goes_cases (RW.refl w) h with ⟨_, hall⟩ | h
    · cases hmode with
      | opn h1 h2 h3 => exfalso; have := h2 i hi; omega
      | reg h1 h2 h3 => exfalso; have := h2 i hi; omega
      | last L' h1 h2 h3 h4 =>
        by_cases e : i = L'
        · subst e
          rw [if_neg (by omega)] at hwg
          obtain ⟨g', hgo, _⟩ := hall hwg
          exact ⟨g', _, _, hgo⟩
        · exfalso; have := h4 i hi e; omega
      | sema h => exfalso; have := h i hi; omega
      | fin _ h => exfalso; have := h i hi; omega
    · exact h
  | d3 h =>
    rcases goes_cases (RW.refl w) h with ⟨_, hall⟩ | h
    · cases hmode with
      | opn h1 h2 h3 => exfalso; have := h2 i hi; omega
      | reg h1 h2 h3 => exfalso; have := h2 i hi; omega
      | last L' h1 h2 h3 h4 =>
        by_cases e : i = L'
        · subst e
          rw [if_neg (by omega)] at hwg
          obtain ⟨g', hgo, _⟩ := hall hwg
          exact ⟨g', _, _, hgo⟩
        · exfalso; have := h4 i hi e; omega
      | sema h => exfalso; have := h i hi; omega
      | fin _ h => exfalso; have := h i hi; omega
    · exact h
  | d4 h =>
    rcases goes_cases (RW.refl w) h with ⟨_, _, hall⟩ | h
    · cases hmode with
      | opn h1 h2 h3 => exfalso; have := h2 i hi; omega
      | reg h1 h2 h3 => exfalso; have := h2 i hi; omega
      | last L' h1 h2 h3 h4 =>
        by_cases e : i = L'
        · subst e
          rw [if_pos (by omega)] at hwg
          obtain ⟨g', hgo, _⟩ := hall hwg
          exact ⟨g', _, _, hgo⟩
        · exfalso; have := h4 i hi e; omega
      | sema h => exfalso; have := h i hi; omega
      | fin _ h => exfalso; have := h i hi; omega
    · exact h
  | quit h =>
    cases m with
    | zero => exact absurd h.1 (by rw [hrun]; simp)
    | succ m =>
      rcases h with ⟨hf, _⟩ | ⟨_, g', es, _, hstp, _⟩
      · rw [hrun] at hf; cases hf
      · exact ⟨g', w, es, hstp w⟩

/-! ### a run that dies by a fatal error comes to no return -/
def DeadG (g : Goroutine) : Prop := ∃ d, g.dying = some d ∧ d.calling = false ∧ d.fatal.isSome = true

theorem dead_step {g : Goroutine} (h : DeadG g) (w : World) : (∃ g' w' es, stepG P true g w = .go g' w' es ∧ DeadG g') ∨ ∃ o w' es, stepG P true g w = .ended o w' es ∧ ∀ v, o ≠ .done v := by
  obtain ⟨d, hd, hc, hf⟩ := h
  obtain ⟨f, hf'⟩ := Option.isSome_iff_exists.1 hf
  have e : stepG P true g w = writeOn P g.frame d f w := by
    obtain ⟨fr, cs, s, dy, off⟩ := g
    simp only at hd
    subst hd
    obtain ⟨a1, a2, a3, a4, a5, a6, a7⟩ := d
    simp only at hc hf'
    subst hc hf'
    simp [stepG, die]
  rw [e]
  unfold writeOn
  dsimp only
  split
  · exact .inr ⟨_, _, _, rfl, by simp⟩
  · split
    · exact .inl ⟨_, _, _, rfl, _, rfl, hc, rfl⟩
    · exact .inl ⟨_, _, _, rfl, _, rfl, hc, rfl⟩
    · exact .inr ⟨_, _, _, rfl, by simp⟩
    · exact .inr ⟨_, _, _, rfl, by simp⟩
theorem dead_again {g : Goroutine} (h : DeadG g) (w : World) : DeadG (g.again w) := by
  obtain ⟨d, hd, x⟩ := h
  refine ⟨d, ?_, x⟩
  unfold Goroutine.again
  split
  · dsimp only; split <;> exact hd
  · exact hd
  · exact hd
  · exact hd
theorem dead_woken {g b b' : Goroutine} (h : DeadG g) (w : World) : DeadG (woken P b b' w g) := by
  unfold woken
  split
  · exact dead_again h w
  · exact h

theorem get0_set {gs : Array Goroutine} {f : Goroutine → Goroutine} {a a' : Goroutine} (h : gs[0]? = some a) : ((gs.map f).setIfInBounds 0 a')[0]? = some a' := by
  have : 0 < gs.size := (Array.getElem?_eq_some_iff.1 h).1
  simp [this]
theorem get0_set' {gs : Array Goroutine} {f : Goroutine → Goroutine} {a a' : Goroutine} {i : Nat} (hi : 0 < i) (h : gs[0]? = some a) : ((gs.map f).setIfInBounds i a')[0]? = some (f a) := by
  rw [Array.getElem?_setIfInBounds_ne (by omega), Array.getElem?_map, h]
  rfl

/-- THE CROWD's STARTER DOES NOT DIE. -/
theorem inv_not_dead (A : Apart (ShN Wg) Own Rd) (G : Geo Wg C Lw) (hn : n < 2147483648) (hAr : ∀ g w, AnchW g w → g.status = .running)
    (hAn : ∀ g w, AnchW g w → ∃ m, Goes P true (RC ty Wg C) (DP Wg Own Rd n (Lw n)) (AtW1 P ty Wg C n Own Rd (Lw n) vals AnchW Post) m g w)
    (hl : vals.length = n) (hv : ∀ i, i < n → vals[i]? = some (val i)) : ∀ (μ : Nat × Nat) (m : Machine) (t : Trace), Inv P ty Wg C n Own Rd Lw val vals AnchW Post μ m t →
      ∀ (gs : Array Goroutine) (w : World) (sl : Option (Nat × Nat)) (a : Goroutine), m = crowd gs w sl → gs[0]? = some a → DeadG a → False := by
  intro μ
  refine (Prod.lex Nat.lt_wfRel Nat.lt_wfRel).wf.induction (C := fun μ => ∀ (m : Machine) (t : Trace), Inv P ty Wg C n Own Rd Lw val vals AnchW Post μ m t →
      ∀ (gs : Array Goroutine) (w : World) (sl : Option (Nat × Nat)) (a : Goroutine), m = crowd gs w sl → gs[0]? = some a → DeadG a → False) μ ?_
  intro μ ih m t hI gs w sl a hm h0 hdead
  obtain ⟨gs', w', sl', j, D, tag, f0, d0, a', st, sm, hm', ha, hcs, hcom, hwg, hmode, hacq, rfl⟩ := hI
  have e : gs = gs' ∧ w = w' ∧ sl = sl' := by
    have := hm.symm.trans hm'
    simp only [crowd, Machine.mk.injEq, Rest.mk.injEq] at this
    exact ⟨this.2.1, this.1, this.2.2.2.2.1⟩
  obtain ⟨rfl, rfl, rfl⟩ := e
  obtain rfl : a = a' := Option.some.inj (h0.symm.trans ha)
  obtain ⟨i, g, hg, hrun⟩ := someone_runs hAr ha hcs hcom hmode
  cases i with
  | zero =>
    obtain rfl : g = a := Option.some.inj (hg.symm.trans ha)
    rcases stepCaller (sl := sl) A G hn hAn hl hv ha hcs hcom hwg hmode hacq hrun with ⟨o, w₁, ops, h1, h2⟩ | ⟨m', ops, μ', h1, h2, h3⟩
    · obtain ⟨v, rfl, _⟩ := h2 w sl
      rcases dead_step (P := P) hdead w with ⟨g', w2, es, hgo, _⟩ | ⟨o', w2, es, hgo, hne⟩
      · rw [runT_crowd_go ha (show stepG P (0 == 0) g w = _ from hgo)] at h1; cases h1
      · rw [runT_many_ended ha (show stepG P (0 == 0) g w = _ from hgo)] at h1
        simp only [Prod.mk.injEq, Stepped.ended.injEq] at h1
        exact hne v h1.1.1
    · rcases dead_step (P := P) hdead w with ⟨g', w2, es, hgo, hd'⟩ | ⟨o', w2, es, hgo, hne⟩
      · rw [runT_crowd_go ha (show stepG P (0 == 0) g w = _ from hgo)] at h1
        simp only [Prod.mk.injEq, Stepped.next.injEq] at h1
        exact ih μ' h2 m' _ h3 _ _ _ g' h1.1.symm (get0_set ha) hd'
      · rw [runT_many_ended ha (show stepG P (0 == 0) g w = _ from hgo)] at h1; cases h1
  | succ i =>
    have hi : i < j := by have := (Array.getElem?_eq_some_iff.1 hg).1; rw [hcom.size] at this; omega
    obtain ⟨m₁, ops, μ', h1, h2, h3⟩ := stepWorker (sl := sl) A G hAr hn ha hcs hcom hwg hmode hacq hi hg hrun
    obtain ⟨g', w2, es, hgo⟩ := worker_goes hcs hn hcom hwg hmode hi hg hrun
    rw [runT_crowd_go hg (by simpa using hgo)] at h1
    simp only [Prod.mk.injEq, Stepped.next.injEq] at h1
    exact ih μ' h2 m₁ _ h3 _ _ _ _ h1.1.symm (get0_set' (by omega) ha) (dead_woken hdead _)
end
end Go.Veiled

namespace Go.Veiled
set_option linter.unusedSimpArgs false
set_option linter.unusedSectionVars false
set_option linter.unusedVariables false
open Go.Conc

/-- Goroutine 0 keeps its number; the others are moved behind the L that were there before. -/
def ren (L g : Nat) : Nat := if g = 0 then 0 else L + g
def renA (L : Nat) : MemAct → MemAct
  | .go k => .go (ren L k)
  | x => x
def renO (L : Nat) (op : MemOp) : MemOp := { op with g := ren L op.g, act := renA L op.act }

theorem ren_inj {L a b : Nat} (h : ren L a = ren L b) : a = b := by
  unfold ren at h
  split at h <;> split at h <;> omega
theorem ren_iff {L a b : Nat} : ren L a = ren L b ↔ a = b := ⟨ren_inj, fun h => by rw [h]⟩
theorem ren_zero {L g : Nat} (h : ren L g = 0) : g = 0 := by
  unfold ren at h
  split at h <;> omega
theorem ren_out {L g y : Nat} (h0 : y ≠ 0) (hy : y ≤ L) : y ≠ ren L g := by
  unfold ren
  split <;> omega
theorem renA_touch (L : Nat) (x : MemAct) : (renA L x).touch? = x.touch? := by cases x <;> rfl
theorem renA_low {L B : Nat} {x : MemAct} (h : x.low B) : (renA L x).low B := by cases x <;> first | exact h | trivial
theorem renA_back {L : Nat} {x y : MemAct} (h : renA L x = y) (hy : ∀ k, y ≠ .go k) : x = y := by
  cases x with
  | go k => exact absurd h.symm (hy _)
  | _ => exact h

def muteAct (x : MemAct) : Prop := x = .mark .disable ∨ x = .mark .enable

structure Sown (L : Nat) (t0 s T : Trace) (φ : Nat → Nat) : Prop where
  ext : ∃ U, T = t0 ++ U
  img : ∀ i op, s[i]? = some op → T[φ i]? = some (renO L op)
  lo : ∀ i, i < s.size → t0.size ≤ φ i
  mono : ∀ i j, i < j → j < s.size → φ i < φ j
  gap : ∀ k y, T[k]? = some y → t0.size ≤ k → (∃ i, i < s.size ∧ k = φ i) ∨ (y.g ≠ 0 ∧ y.g ≤ L ∧ muteAct y.act)
  dfi : ∀ g i, i < s.size → T.deaf (ren L g) (φ i) = s.deaf g i
  dfe : ∀ g, Deaf T (ren L g) = Deaf s g

section
variable {L : Nat} {t0 s T : Trace} {φ : Nat → Nat}

theorem at_of_lt {s : Trace} {i : Nat} (hi : i < s.size) : s[i]? = some s[i] ∧ s.g? i = some s[i].g := by
  have := Array.getElem?_eq_getElem hi
  exact ⟨this, by simp [Trace.g?, this]⟩
theorem g_lt {t : Trace} {i g : Nat} (h : t.g? i = some g) : i < t.size := by
  obtain ⟨z, hz, _⟩ := Option.map_eq_some_iff.1 h
  exact lt_size_of_getElem? hz

theorem Sown.act (S : Sown L t0 s T φ) {i : Nat} {x : MemAct} (h : s.act? i = some x) : T.act? (φ i) = some (renA L x) := by
  obtain ⟨op, ho, rfl⟩ := Option.map_eq_some_iff.1 h
  simp [Trace.act?, S.img i op ho, renO]
theorem Sown.g (S : Sown L t0 s T φ) {i g : Nat} (h : s.g? i = some g) : T.g? (φ i) = some (ren L g) := by
  obtain ⟨op, ho, rfl⟩ := Option.map_eq_some_iff.1 h
  simp [Trace.g?, S.img i op ho, renO]
theorem Sown.touch (S : Sown L t0 s T φ) {i : Nat} (hi : i < s.size) : touchAt T (φ i) = touchAt s i := by
  rw [touchAt_of (S.img i _ (at_of_lt hi).1), touchAt_of (at_of_lt hi).1]
  exact renA_touch L _
theorem Sown.refl (S : Sown L t0 s T φ) {i j : Nat} (hi : i < s.size) (h : φ i < φ j) : i < j := by
  apply Nat.lt_of_not_le
  intro hji
  rcases Nat.lt_or_eq_of_le hji with x | rfl
  · have := S.mono j i x hi; omega
  · omega
theorem Sown.back (S : Sown L t0 s T φ) {k : Nat} {x : MemAct} (h : T.act? k = some x) (hk : t0.size ≤ k) (hx : ¬ muteAct x) (hgo : ∀ n, x ≠ .go n) : ∃ i, i < s.size ∧ k = φ i ∧ s.act? i = some x := by
  obtain ⟨y, hy, rfl⟩ := Option.map_eq_some_iff.1 h
  rcases S.gap k y hy hk with ⟨i, hi, rfl⟩ | ⟨_, _, e⟩
  · have e := Option.some.inj (hy.symm.trans (S.img i _ (at_of_lt hi).1))
    exact ⟨i, hi, rfl, by rw [act?_of (at_of_lt hi).1, renA_back (L := L) (x := s[i].act) (y := y.act) (by rw [e]; rfl) hgo]⟩
  · exact absurd e hx
theorem Sown.heard (S : Sown L t0 s T φ) {i : Nat} (h : s.heard i) : T.heard (φ i) := by
  obtain ⟨g, hg, hd⟩ := h
  exact ⟨ren L g, S.g hg, by rw [S.dfi g i (g_lt hg)]; exact hd⟩
theorem Sown.heard_back (S : Sown L t0 s T φ) {i : Nat} (hi : i < s.size) (h : T.heard (φ i)) : s.heard i := by
  obtain ⟨g', hg', hd⟩ := h
  have hg := (at_of_lt hi).2
  obtain rfl : g' = ren L s[i].g := Option.some.inj (hg'.symm.trans (S.g hg))
  exact ⟨_, hg, by rw [← S.dfi _ i hi]; exact hd⟩

theorem Sown.notices (S : Sown L t0 s T φ) {i j : Nat} (h : Notices s i j) : Notices T (φ i) (φ j) := by
  cases h with
  | @atomic a hij hi hj hb =>
    have hjs := lt_of_act? hj
    have his : i < s.size := Nat.lt_trans hij hjs
    refine .atomic (S.mono _ _ hij hjs) (S.act hi) (S.act hj) (fun k sync h1 h2 e => ?_)
    obtain ⟨k', hk', rfl, hact⟩ := S.back e (by have := S.lo i his; omega) (by simp [muteAct]) (by simp)
    exact hb k' sync (S.refl his h1) (S.refl hk' h2) hact
  | @spawn child hi hj hg => exact .spawn (child := ren L child) (S.act hi) (S.act hj) (S.g hg)
  | handOver hi hj => exact .handOver (S.act hi) (S.act hj)
  | room hi hj => exact .room (S.act hi) (S.act hj)
  | closed hi hj => exact .closed (S.act hi) (S.act hj)
  | @marked a hij hi hj hb =>
    have hjs := lt_of_act? hj
    have his : i < s.size := Nat.lt_trans hij hjs
    refine .marked (S.mono _ _ hij hjs) (hi.imp S.act S.act) (S.act hj) (fun k h1 h2 e => ?_)
    obtain ⟨k', hk', rfl, hact⟩ := S.back e (by have := S.lo i his; omega) (by simp [muteAct]) (by simp)
    exact hb k' (S.refl his h1) (S.refl hk' h2) hact

theorem Sown.hb (S : Sown L t0 s T φ) {i j : Nat} (h : HappensBefore s i j) : HappensBefore T (φ i) (φ j) := by
  have edge : ∀ a b, (ProgramOrder s a b ∨ (Notices s a b ∧ s.heard a ∧ s.heard b)) → (ProgramOrder T (φ a) (φ b) ∨ (Notices T (φ a) (φ b) ∧ T.heard (φ a) ∧ T.heard (φ b))) := by
    rintro a b (⟨hab, g, h1, h2⟩ | ⟨n, x, y⟩)
    · exact .inl ⟨S.mono a b hab (g_lt h2), ren L g, S.g h1, S.g h2⟩
    · exact .inr ⟨S.notices n, S.heard x, S.heard y⟩
  induction h with
  | single e => exact .single (edge _ _ e)
  | tail _ e ih => exact .tail ih (edge _ _ e)

theorem Sown.knows (S : Sown L t0 s T φ) {i : Nat} (h : Knows s 0 i) : Knows T 0 (φ i) := by
  obtain ⟨q, z, hz, hg, hb⟩ := h
  exact ⟨φ q, _, S.img q z hz, by simp [renO, hg, ren], hb.elim (fun e => .inl (by rw [e])) (fun e => .inr (S.hb e))⟩

/-- WHAT IS HELD OF A PAST IS HELD BEHIND THE PHASE. -/
theorem past_of_sown {Shun Shun' : Loc → Prop} {B B' : Nat} (hP : Past Shun B t0) (hB : B ≤ B') (S : Sown L t0 s T φ)
    (clean : ∀ said, ¬ Race said s)
    (known : ∀ i a, touchAt s i = some a → a.loc.isMemory = true → Knows s 0 i ∨ (Shun' a.loc ∧ a.kind = .atomic))
    (rooted : ∀ i g, s.g? i = some g → g ≠ 0 → ∃ j, s.g? j = some 0 ∧ HappensBefore s j i)
    (shy : ∀ i a, touchAt s i = some a → Shun a.loc → a.kind ≠ .plain)
    (low : ∀ op ∈ s, op.act.low B') (over : s.HandedOver) (hear : Deaf s 0 = 0) : Past (fun l => Shun l ∨ Shun' l) B' T := by
  obtain ⟨U, rfl⟩ := id S.ext
  have place : ∀ k a, touchAt (t0 ++ U) k = some a → (k < t0.size ∧ touchAt t0 k = some a) ∨ ∃ i, i < s.size ∧ k = φ i ∧ touchAt s i = some a := by
    intro k a ha
    rcases Nat.lt_or_ge k t0.size with hk | hk
    · exact .inl ⟨hk, by rw [← touchAt_old (u := U) hk]; exact ha⟩
    · obtain ⟨y, hy, hya⟩ := touch_of ha
      rcases S.gap k y hy hk with ⟨i, hi, rfl⟩ | ⟨_, _, e⟩
      · exact .inr ⟨i, hi, rfl, by rw [← S.touch hi]; exact ha⟩
      · rcases e with e | e <;> (rw [e] at hya; cases hya)
  -- what goroutine 0 knew before comes ahead of every image
  have ahead : ∀ k i, Knows t0 0 k → i < s.size → HappensBefore (t0 ++ U) k (φ i) := by
    intro k i hk hi
    have own0 : ∀ j, s.g? j = some 0 → HappensBefore (t0 ++ U) k (φ j) := by
      intro j hj
      have hjs := g_lt hj
      have e0 : s[j].g = 0 := Option.some.inj ((at_of_lt hjs).2.symm.trans hj)
      exact hk.hb_new (S.lo j hjs) (S.img j _ (at_of_lt hjs).1) (by simp [renO, e0, ren])
    by_cases e : s[i].g = 0
    · exact own0 i (by rw [(at_of_lt hi).2, e])
    · obtain ⟨j, hj, hb⟩ := rooted i _ (at_of_lt hi).2 e
      exact (own0 j hj).trans (S.hb hb)
  refine ⟨fun said => ?_, fun k a ha hm => ?_, fun k g hg hne hcn => ?_, ?_, fun op hop => ?_⟩
  · rintro ⟨x, y, hxy, ⟨a, b, ha, hb, hcf⟩, n1, n2⟩
    rcases place x a ha with ⟨hx, hax⟩ | ⟨i, hi, rfl, hai⟩ <;> rcases place y b hb with ⟨hy, hby⟩ | ⟨j, hj, rfl, hbj⟩
    · exact hP.clean said ⟨x, y, hxy, ⟨a, b, hax, hby, hcf⟩, fun e => n1 (hb_app U e), fun e => n2 (hb_app U e)⟩
    · rcases hP.known x a hax hcf.2.1 with hk | ⟨hs, hka⟩
      · exact n1 (ahead x j hk hj)
      · have hkb := shy j b hbj (hcf.1 ▸ hs)
        obtain ⟨_, _, _, hkind⟩ := hcf
        rw [hka] at hkind
        rcases hkind with z | z | ⟨_, z, _⟩
        · cases z
        · exact absurd z hkb
        · cases z
    · have := S.lo i hi; omega
    · have hij := S.refl hi hxy
      exact clean said ⟨i, j, hij, ⟨a, b, hai, hbj, hcf⟩, fun e => n1 (S.hb e), fun e => n2 (S.hb e)⟩
  · rcases place k a ha with ⟨_, hak⟩ | ⟨i, _, rfl, hai⟩
    · exact (hP.known k a hak hm).imp (·.app U) (fun x => ⟨.inl x.1, x.2⟩)
    · exact (known i a hai hm).imp S.knows (fun x => ⟨.inr x.1, x.2⟩)
  · obtain ⟨a, ha, hmem, hkind⟩ := id hcn
    rcases place k a ha with ⟨hk, _⟩ | ⟨i, hi, rfl, hai⟩
    · obtain ⟨j, hj, hb⟩ := hP.over k g (by rw [← g?_old (u := U) hk]; exact hg) hne ((counts_old hk).1 hcn)
      exact ⟨j, by rw [g?_old (g_lt hj)]; exact hj, hb_app U hb⟩
    · obtain rfl : g = ren L s[i].g := Option.some.inj (hg.symm.trans (S.g (at_of_lt hi).2))
      have hne' : s[i].g ≠ 0 := fun e => hne (by rw [e]; rfl)
      obtain ⟨j, hj, hb⟩ := over i _ (at_of_lt hi).2 hne' ⟨a, hai, hmem, hkind.imp id (S.heard_back hi)⟩
      exact ⟨φ j, S.g hj, S.hb hb⟩
  · have := S.dfe 0
    rw [show ren L 0 = 0 from rfl] at this
    rw [this, hear]
  · obtain ⟨k, hk, rfl⟩ := Array.mem_iff_getElem.1 hop
    have hy := Array.getElem?_eq_getElem hk
    rcases Nat.lt_or_ge k t0.size with hlt | hge
    · have e : t0[k]? = some (t0 ++ U)[k] := by rw [← getElem?_append_old (u := U) hlt]; exact hy
      exact MemAct.low_mono hB (hP.seen _ (Array.mem_of_getElem? e))
    · rcases S.gap k _ hy hge with ⟨i, hi, rfl⟩ | ⟨_, _, e⟩
      · rw [Option.some.inj (hy.symm.trans (S.img i _ (at_of_lt hi).1))]
        exact renA_low (low _ (Array.mem_of_getElem? (at_of_lt hi).1))
      · rcases e with e | e <;> rw [e] <;> trivial

/-! ### how it is kept -/
theorem deaf_ren (L g : Nat) (op : MemOp) (d : Nat) : deafStep (ren L g) d (renO L op) = deafStep g d op := by
  have e : (ren L op.g = ren L g) ↔ (op.g = g) := ren_iff
  obtain ⟨h, fn, pos, act⟩ := op
  simp only at e
  cases act with
  | mark m => cases m <;> simp [deafStep, renO, renA, e]
  | _ => simp [deafStep, renO, renA]

theorem Sown.init (h : ∀ g, Deaf t0 (ren L g) = 0) : Sown L t0 #[] t0 id where
  ext := ⟨#[], by simp⟩
  img := fun i op h => by simp at h
  lo := fun i h => by simp at h
  mono := fun i j _ h => by simp at h
  gap := fun k y hy hk => absurd (lt_size_of_getElem? hy) (by omega)
  dfi := fun g i h => by simp at h
  dfe := fun g => by rw [h]; rfl

theorem Sown.lt (S : Sown L t0 s T φ) {i : Nat} (hi : i < s.size) : φ i < T.size := lt_size_of_getElem? (S.img i _ (at_of_lt hi).1)
theorem Sown.le (S : Sown L t0 s T φ) : t0.size ≤ T.size := by obtain ⟨U, rfl⟩ := S.ext; simp

theorem Sown.one (S : Sown L t0 s T φ) (op : MemOp) : Sown L t0 (s ++ #[op]) (T ++ #[renO L op]) (fun i => if i < s.size then φ i else T.size) := by
  have hsz : (s ++ #[op]).size = s.size + 1 := by simp
  have hin : ∀ {i}, i < s.size → (if i < s.size then φ i else T.size) = φ i := fun h => if_pos h
  have hout : (if s.size < s.size then φ s.size else T.size) = T.size := if_neg (by omega)
  have split : ∀ {i}, i < (s ++ #[op]).size → i < s.size ∨ i = s.size := fun h => by omega
  refine ⟨?_, fun i x hx => ?_, fun i hi => ?_, fun i j hij hj => ?_, fun k y hy hk => ?_, fun g i hi => ?_, fun g => ?_⟩
  · obtain ⟨U, rfl⟩ := S.ext
    exact ⟨U ++ #[renO L op], by simp⟩
  · rcases split (lt_size_of_getElem? hx) with hi | rfl
    · rw [hin hi, getElem?_append_old (S.lt hi)]
      rw [getElem?_append_old hi] at hx
      exact S.img i x hx
    · obtain rfl : op = x := by simpa using hx
      rw [hout]
      simp
  · rcases split hi with hi | rfl
    · rw [hin hi]; exact S.lo i hi
    · rw [hout]; exact S.le
  · have hi : i < s.size := by omega
    rw [hin hi]
    rcases split hj with hj | rfl
    · rw [hin hj]; exact S.mono i j hij hj
    · rw [hout]; exact S.lt hi
  · rcases getElem?_append_cases hy with ⟨_, hy'⟩ | ⟨hk', _⟩
    · rcases S.gap k y hy' hk with ⟨i, hi, rfl⟩ | h
      · exact .inl ⟨i, by omega, (hin hi).symm⟩
      · exact .inr h
    · have := lt_size_of_getElem? hy
      simp at this
      exact .inl ⟨s.size, by omega, by rw [hout]; omega⟩
  · show (T ++ #[renO L op]).deaf (ren L g) (if i < s.size then φ i else T.size) = (s ++ #[op]).deaf g i
    rcases split hi with hi | rfl
    · rw [hin hi, deaf_old (Nat.le_of_lt (S.lt hi)), deaf_old (Nat.le_of_lt hi)]
      exact S.dfi g i hi
    · rw [hout, deaf_old (Nat.le_refl _), deaf_old (Nat.le_refl _)]
      exact S.dfe g
  · rw [Deaf_push, Deaf_push, S.dfe g, deaf_ren]

theorem Sown.slip1 (S : Sown L t0 s T φ) {y : MemOp} (h0 : y.g ≠ 0) (hL : y.g ≤ L) (hm : muteAct y.act) : Sown L t0 s (T ++ #[y]) φ := by
  refine ⟨?_, fun i x hx => ?_, S.lo, S.mono, fun k z hz hk => ?_, fun g i hi => ?_, fun g => ?_⟩
  · obtain ⟨U, rfl⟩ := S.ext
    exact ⟨U ++ #[y], by simp⟩
  · rw [getElem?_append_old (S.lt (lt_size_of_getElem? hx))]
    exact S.img i x hx
  · rcases getElem?_append_cases hz with ⟨_, hz'⟩ | ⟨_, hzu⟩
    · exact S.gap k z hz' hk
    · obtain rfl : z = y := by simpa using hzu
      exact .inr ⟨h0, hL, hm⟩
  · rw [deaf_old (Nat.le_of_lt (S.lt hi))]
    exact S.dfi g i hi
  · rw [Deaf_other T (g' := y.g) (fun e => ren_out h0 hL (by first | exact e | exact e.symm)) #[y] (by simp)]
    exact S.dfe g
end

/-- The trace of a phase within the great one. -/
def Within (L : Nat) (t0 s T : Trace) : Prop := ∃ φ, Sown L t0 s T φ

section
variable {L : Nat} {t0 s T : Trace}
theorem Within.ones : ∀ (l : List MemOp) {s T : Trace}, Within L t0 s T → Within L t0 (s ++ l.toArray) (T ++ (l.map (renO L)).toArray)
  | [], _, _, h => by simpa using h
  | x :: l, s, T, ⟨φ, S⟩ => by
    have := Within.ones l ⟨_, S.one x⟩
    simpa [Array.append_assoc] using this
theorem Within.ops (h : Within L t0 s T) (u : Array MemOp) : Within L t0 (s ++ u) (T ++ u.map (renO L)) := by
  have := Within.ones u.toList h
  have e : (u.toList.map (renO L)).toArray = u.map (renO L) := by apply Array.toList_inj.1; simp
  rw [e] at this
  simpa using this
theorem Within.slips : ∀ (l : List MemOp) {T : Trace}, (∀ y ∈ l, y.g ≠ 0 ∧ y.g ≤ L ∧ muteAct y.act) → Within L t0 s T → Within L t0 s (T ++ l.toArray)
  | [], _, _, h => by simpa using h
  | x :: l, T, hl, ⟨φ, S⟩ => by
    obtain ⟨a, b, d⟩ := hl x (by simp)
    have := Within.slips l (fun y h => hl y (by simp [h])) ⟨φ, S.slip1 a b d⟩
    simpa [Array.append_assoc] using this
theorem event_no_go (e : Event) (k : Nat) : MemAct.ofEvent e ≠ .go k := by
  obtain ⟨loc, wr, sy⟩ := e
  cases loc <;> cases wr <;> cases sy <;> simp [MemAct.ofEvent]
theorem renO_events (L g : Nat) (fn : FuncId) (pos : String) (es : Array Event) : (MemOp.ofEvents g fn pos es).map (renO L) = MemOp.ofEvents (ren L g) fn pos es := by
  simp only [ofEvents_eq, Array.map_map]
  congr 1
  funext e
  have : renA L (MemAct.ofEvent e) = MemAct.ofEvent e := by
    cases h : MemAct.ofEvent e with
    | go k => exact absurd h (event_no_go e k)
    | _ => rfl
  simp [renO, this]
/-- A step of goroutine g of the phase. -/
theorem Within.events (h : Within L t0 s T) (g : Nat) (fn : FuncId) (pos : String) (es : Array Event) : Within L t0 (s ++ MemOp.ofEvents g fn pos es) (T ++ MemOp.ofEvents (ren L g) fn pos es) := by
  have := h.ops (MemOp.ofEvents g fn pos es)
  rwa [renO_events] at this
theorem mute_act {e : Event} (h : e.mute = true) : muteAct (MemAct.ofEvent e) := by
  obtain ⟨loc, wr, sy⟩ := e
  cases loc with
  | mark m => cases m <;> first | (cases h; done) | (simp [MemAct.ofEvent, muteAct])
  | _ => cases h
/-- A slip of one of those that were there before. -/
theorem Within.mutes (h : Within L t0 s T) {γ : Nat} (h0 : γ ≠ 0) (hγ : γ ≤ L) (fn : FuncId) (pos : String) {es : Array Event} (hm : ∀ e ∈ es, e.mute = true) : Within L t0 s (T ++ MemOp.ofEvents γ fn pos es) := by
  have := Within.slips (L := L) (MemOp.ofEvents γ fn pos es).toList (fun y hy => by
    obtain ⟨e, he, rfl⟩ := Conc.mem_ofEvents (Array.mem_toList_iff.1 hy)
    refine ⟨h0, hγ, ?_⟩
    exact mute_act (hm e he)) h
  simpa using this
theorem Within.init {P : Program} {Shun : Loc → Prop} {B : Nat} {gs : Array Goroutine} {q : Nat → Nat} (hP : Past Shun B t0) (hL : Leavers P t0 gs q) (hs : gs.size = L + 1) : Within L t0 #[] t0 :=
  ⟨id, Sown.init fun g => by
    unfold ren
    split
    · exact hP.hears
    · exact hL.above _ (by omega)⟩
end
end Go.Veiled

namespace Go.Veiled
set_option linter.unusedSimpArgs false
set_option linter.unusedSectionVars false
set_option linter.unusedVariables false
open Go.Conc
open Go.ConcN (sumTo)

/-- What the trace of a phase says once the starter has returned. -/
structure Settled (P : Program) (Shun Shun' : Loc → Prop) (gs : Array Goroutine) (s : Trace) : Prop where
  clean : ∀ said, ¬ Race said s
  known : ∀ i a, touchAt s i = some a → a.loc.isMemory = true → Knows s 0 i ∨ (Shun' a.loc ∧ a.kind = .atomic)
  rooted : ∀ i g, s.g? i = some g → g ≠ 0 → ∃ j, s.g? j = some 0 ∧ HappensBefore s j i
  shy : ∀ i a, touchAt s i = some a → Shun a.loc → a.kind ≠ .plain
  over : s.HandedOver
  hear : Deaf s 0 = 0
  left : ∀ i g, gs[i + 1]? = some g → ∃ q, QuitsD P q (Deaf s (i + 1)) g
  above : ∀ j, gs.size ≤ j → Deaf s j = 0

def Less (a b : Nat × Nat) : Prop := Prod.Lex (· < ·) (· < ·) a b

/-- The starter (number 0) and those it has started. -/
structure Crew (P : Program) (Shun Shun' : Loc → Prop) (Post : Value → World → Prop) (I : Nat × Nat → Array Goroutine → World → Trace → Prop) : Prop where
  at_ : ∀ {μ gs w t}, I μ gs w t → ∀ d, I μ gs (w.at d) t
  awake : ∀ {μ gs w t}, I μ gs w t → (∀ g ∈ gs, awake g) ∧ ∃ (i : Nat) (g : Goroutine), gs[i]? = some g ∧ g.status = .running
  wk : ∀ {μ gs w t}, I μ gs w t → ∀ {i : Nat} {g : Goroutine}, gs[i + 1]? = some g → ∀ b b' w', woken P b b' w' g = g
  again : ∀ {μ gs w t}, I μ gs w t → ∀ {a : Goroutine}, gs[0]? = some a → ∃ μ' : Nat × Nat, μ'.1 = μ.1 ∧ μ'.2 ≤ μ.2 + 1 ∧ I μ' (gs.setIfInBounds 0 (a.again w)) w t
  starter : ∀ {μ gs w t}, I μ gs w t → ∀ {a : Goroutine}, gs[0]? = some a → a.status = .running →
    (∃ a' w' es, stepG P true a w = .go a' w' es ∧ ¬ DeadG a' ∧ ∃ μ', Less μ' μ ∧ I μ' ((gs.map (woken P a a' w')).setIfInBounds 0 a') w' (t ++ MemOp.ofEvents 0 a.frame.fn a.frame.place es)) ∨
    (∃ a' child, stepG P true a w = .spawn a' child w #[] ∧ ∃ μ', Less μ' μ ∧
      I μ' ((gs.setIfInBounds 0 a').push child) w (t ++ #[{ g := 0, fn := a.frame.fn, pos := a.frame.place, act := .go gs.size }, { g := gs.size, fn := child.frame.fn, pos := a.frame.place, act := .start }])) ∨
    (∃ v w' es, stepG P true a w = .ended (.done v) w' es ∧ Post v w' ∧ Settled P Shun Shun' gs (t ++ MemOp.ofEvents 0 a.frame.fn a.frame.place es))
  worker : ∀ {μ gs w t}, I μ gs w t → ∀ {i : Nat} {g : Goroutine}, gs[i + 1]? = some g → g.status = .running →
    ∃ g' w' es, stepG P false g w = .go g' w' es ∧ ∃ μ', Less μ' μ ∧ I μ' ((gs.map (woken P g g' w')).setIfInBounds (i + 1) g') w' (t ++ MemOp.ofEvents (i + 1) g.frame.fn g.frame.place es)

/-- Alone, without a word, to the return. -/
def Comes (P : Program) (Q : Value → World → Prop) : Nat → Goroutine → World → Prop
  | 0, g, w => ∃ v, stepG P true g w = .ended (.done v) w #[] ∧ Q v w
  | n + 1, g, w => ∃ g' w', stepG P true g w = .go g' w' #[] ∧ g'.status = .running ∧ Comes P Q n g' w'
/-- Alone, to an end that is no return. -/
def Falls (P : Program) : Nat → Goroutine → World → Prop
  | 0, g, w => ∃ o w' es, stepG P true g w = .ended o w' es ∧ ∀ v, o ≠ .done v
  | n + 1, g, w => ∃ g' w' es, stepG P true g w = .go g' w' es ∧ g'.status = .running ∧ Falls P n g' w'

section
variable {P : Program} {Shun Shun' : Loc → Prop} {Post : Value → World → Prop} {I : Nat × Nat → Array Goroutine → World → Trace → Prop}

theorem get0_put {gs : Array Goroutine} {f : Goroutine → Goroutine} {a a' : Goroutine} (h : gs[0]? = some a) : ((gs.map f).setIfInBounds 0 a')[0]? = some a' := by
  have : 0 < gs.size := (Array.getElem?_eq_some_iff.1 h).1
  simp [this]

theorem Crew.map_wk (hC : Crew P Shun Shun' Post I) {μ gs w t} (h : I μ gs w t) (b b' : Goroutine) (w' : World) (a' : Goroutine) (i : Nat) : ((gs.map (woken P b b' w')).setIfInBounds 0 a')[i + 1]? = gs[i + 1]? := by
  rw [Array.getElem?_setIfInBounds_ne (by omega), Array.getElem?_map]
  cases hg : gs[i + 1]? with
  | none => rfl
  | some g => simp [hC.wk h hg]

theorem Crew.no_fall (hC : Crew P Shun Shun' Post I) : ∀ (n : Nat) {μ gs w t} {a : Goroutine}, I μ gs w t → gs[0]? = some a → a.status = .running → Falls P n a w → False := by
  intro n
  induction n with
  | zero =>
    rintro μ gs w t a h h0 hr ⟨o, w', es, he, ho⟩
    rcases hC.starter h h0 hr with ⟨a', w2, es2, hs, _⟩ | ⟨a', child, hs, _⟩ | ⟨v, w2, es2, hs, _⟩
    · rw [he] at hs; cases hs
    · rw [he] at hs; cases hs
    · rw [he] at hs
      simp only [GStep.ended.injEq] at hs
      exact ho v hs.1
  | succ n ih =>
    rintro μ gs w t a h h0 hr ⟨g', w', es, he, hr', hf⟩
    rcases hC.starter h h0 hr with ⟨a', w2, es2, hs, _, μ', _, h2⟩ | ⟨a', child, hs, _⟩ | ⟨v, w2, es2, hs, _⟩
    · rw [he] at hs
      simp only [GStep.go.injEq] at hs
      obtain ⟨rfl, rfl, rfl⟩ := hs
      exact ih h2 (get0_put h0) hr' hf
    · rw [he] at hs; cases hs
    · rw [he] at hs; cases hs

theorem Settled.congr {gs gs' : Array Goroutine} {s : Trace} (h : Settled P Shun Shun' gs s) (hs : gs.size = gs'.size) (hi : ∀ i : Nat, gs[i + 1]? = gs'[i + 1]?) : Settled P Shun Shun' gs' s :=
  ⟨h.clean, h.known, h.rooted, h.shy, h.over, h.hear, fun i g hg => h.left i g (by rw [hi]; exact hg), fun j hj => h.above j (by omega)⟩

theorem Crew.comes (hC : Crew P Shun Shun' Post I) {Q : Value → World → Prop} : ∀ (n : Nat) {μ gs w t} {a : Goroutine}, I μ gs w t → gs[0]? = some a → a.status = .running → Comes P Q n a w → Settled P Shun Shun' gs t ∧ ∃ v w', Q v w' ∧ Post v w' := by
  have nil : ∀ (t : Trace) (fn : FuncId) (pos : String), t ++ MemOp.ofEvents 0 fn pos #[] = t := fun t fn pos => by simp [ofEvents_eq]
  intro n
  induction n with
  | zero =>
    rintro μ gs w t a h h0 hr ⟨v, he, hq⟩
    rcases hC.starter h h0 hr with ⟨a', w2, es2, hs, _⟩ | ⟨a', child, hs, _⟩ | ⟨v', w2, es2, hs, hp, hset⟩
    · rw [he] at hs; cases hs
    · rw [he] at hs; cases hs
    · rw [he] at hs
      simp only [GStep.ended.injEq, Outcome.done.injEq] at hs
      obtain ⟨rfl, rfl, rfl⟩ := hs
      rw [nil] at hset
      exact ⟨hset, v, w, hq, hp⟩
  | succ n ih =>
    rintro μ gs w t a h h0 hr ⟨g', w', he, hr', hf⟩
    rcases hC.starter h h0 hr with ⟨a', w2, es2, hs, _, μ', _, h2⟩ | ⟨a', child, hs, _⟩ | ⟨v, w2, es2, hs, _⟩
    · rw [he] at hs
      simp only [GStep.go.injEq] at hs
      obtain ⟨rfl, rfl, rfl⟩ := hs
      rw [nil] at h2
      obtain ⟨hset, hx⟩ := ih h2 (get0_put h0) hr' hf
      exact ⟨hset.congr (by simp) fun i => hC.map_wk h _ _ _ _ i, hx⟩
    · rw [he] at hs; cases hs
    · rw [he] at hs; cases hs

/-- Whatever bad step the starter were to take. -/
theorem Crew.no_bad (hC : Crew P Shun Shun' Post I) {μ gs w t} {a : Goroutine} (h : I μ gs w t) (h0 : gs[0]? = some a) (hr : a.status = .running) (hb : BadStep (stepG P true a w)) : False := by
  rcases hb with ⟨o, w', es, he, ho⟩ | ⟨g', w', es, d, he, hd⟩
  · exact hC.no_fall 0 h h0 hr ⟨o, w', es, he, ho⟩
  · rcases hC.starter h h0 hr with ⟨a', w2, es2, hs, hn, _⟩ | ⟨a', child, hs, _⟩ | ⟨v, w2, es2, hs, _⟩
    · rw [he] at hs
      simp only [GStep.go.injEq] at hs
      obtain ⟨rfl, rfl, rfl⟩ := hs
      exact hn ⟨d, hd⟩
    · rw [he] at hs; cases hs
    · rw [he] at hs; cases hs
end

/-! ### the frame below -/
/-- Frames below which there is nothing: a panic into the first, or a deferred call's return, ends the run; a value returned is kept from sight. -/
structure Door (P : Program) (b : Frame) (m : List Frame) : Prop where
  raise : ∀ ch w, ∃ n, Falls P n (G (b.raise ch) m) w
  mode : b.mode = .run
  back : ∀ w, ∃ n, Falls P n (G b m) w
  fin : ∀ u w, ∃ n, Comes P (fun _ _ => True) n (G (b.finish u) m) w
/-- Frames below which there is nothing, and which hand a value on. -/
structure Sill (P : Program) (b : Frame) (m : List Frame) : Prop where
  fin : ∀ u w, ∃ n, Comes P (fun v w' => v = u ∧ w' = w) n (G (b.finish u) m) w

theorem low_bound : ∀ (s : Trace), ∃ B, ∀ op ∈ s, op.act.low B := by
  have one : ∀ x : MemAct, ∃ B, x.low B := by
    intro x
    cases x with
    | access e =>
      obtain ⟨loc, wr, sy⟩ := e
      cases loc with
      | cell a => exact ⟨a.block + 1, Nat.lt_succ_self _⟩
      | obj r => exact ⟨r + 1, Nat.lt_succ_self _⟩
      | _ => exact ⟨0, trivial⟩
    | mark m => cases m <;> first | exact ⟨0, trivial⟩ | exact ⟨_, Nat.lt_succ_self _⟩
    | go _ => exact ⟨0, trivial⟩
    | start => exact ⟨0, trivial⟩
    | send c _ => exact ⟨c + 1, Nat.lt_succ_self _⟩
    | sendDone c _ => exact ⟨c + 1, Nat.lt_succ_self _⟩
    | recv c _ _ => exact ⟨c + 1, Nat.lt_succ_self _⟩
    | recvDone c _ => exact ⟨c + 1, Nat.lt_succ_self _⟩
    | close c => exact ⟨c + 1, Nat.lt_succ_self _⟩
    | recvClosed c => exact ⟨c + 1, Nat.lt_succ_self _⟩
  intro ⟨l⟩
  induction l with
  | nil => exact ⟨0, fun op h => by simp at h⟩
  | cons x l ih =>
    obtain ⟨B1, h1⟩ := one x.act
    obtain ⟨B2, h2⟩ := ih
    refine ⟨max B1 B2, fun op hop => ?_⟩
    simp only [List.mem_toArray, List.mem_cons] at hop
    rcases hop with rfl | hop
    · exact MemAct.low_mono (Nat.le_max_left _ _) h1
    · exact MemAct.low_mono (Nat.le_max_right _ _) (h2 op (by simpa using hop))
end Go.Veiled

namespace Go.Veiled
set_option linter.unusedSimpArgs false
set_option linter.unusedSectionVars false
set_option linter.unusedVariables false
open Go.Conc Go.ConcN
open Go.ConcR (KK wgBlock WgAt stA smA rd wr mk Payload Aside2 DC0)

structure Extra (Wg : Nat) (Shun : Loc → Prop) (j : Nat) (t : Trace) : Prop where
  soft : ∀ i op, t[i]? = some op → op.g ≠ 0 → ∀ x, op.act.touch? = some x → (ShN Wg x.loc ∧ x.kind = .atomic) ∨ t.heard i
  here : ∀ k, 1 ≤ k → k ≤ j → ∃ i, t.g? i = some k
  rooted : ∀ i g, t.g? i = some g → g ≠ 0 → ∃ p, t.g? p = some 0 ∧ HappensBefore t p i
  shy : ∀ op ∈ t, ∀ x, op.act.touch? = some x → Shun x.loc → x.kind ≠ .plain

section
variable {Wg : Nat} {Shun : Loc → Prop} {j : Nat} {t u : Trace}

theorem Extra.nil : Extra Wg Shun 0 #[] := ⟨fun i op h => by simp at h, fun k h1 h2 => by omega, fun i g h => by simp [Trace.g?] at h, fun op h => by simp at h⟩

theorem g_append {t u : Trace} {i g : Nat} (h : (t ++ u).g? i = some g) : (i < t.size ∧ t.g? i = some g) ∨ (t.size ≤ i ∧ ∃ op ∈ u, op.g = g) := by
  obtain ⟨op, ho, rfl⟩ := Option.map_eq_some_iff.1 h
  rcases getElem?_append_cases ho with ⟨hi, ho'⟩ | ⟨hi, hou⟩
  · exact .inl ⟨hi, by simp [Trace.g?, ho']⟩
  · exact .inr ⟨hi, op, hou, rfl⟩

theorem rooted_old (h : ∀ i g, t.g? i = some g → g ≠ 0 → ∃ p, t.g? p = some 0 ∧ HappensBefore t p i) {i g : Nat} (hi : t.g? i = some g) (hg : g ≠ 0) : ∃ p, (t ++ u).g? p = some 0 ∧ HappensBefore (t ++ u) p i := by
  obtain ⟨p, hp, hb⟩ := h i g hi hg
  exact ⟨p, by rw [g?_old (g_lt hp)]; exact hp, hb_app u hb⟩

/-- Goroutine 0's own. -/
theorem Extra.own0 (h : Extra Wg Shun j t) (hu : ∀ op ∈ u, op.g = 0) (hs : ∀ op ∈ u, ∀ x, op.act.touch? = some x → Shun x.loc → x.kind ≠ .plain) : Extra Wg Shun j (t ++ u) := by
  refine ⟨fun i op ho hg x hx => ?_, fun k h1 h2 => ?_, fun i g hg hne => ?_, fun op hop => ?_⟩
  · rcases getElem?_append_cases ho with ⟨hi, ho'⟩ | ⟨_, hou⟩
    · exact (h.soft i op ho' hg x hx).imp id fun hh => (heard_old hi).2 hh
    · exact absurd (hu op hou) hg
  · obtain ⟨i, hi⟩ := h.here k h1 h2
    exact ⟨i, by rw [g?_old (g_lt hi)]; exact hi⟩
  · rcases g_append hg with ⟨_, hg'⟩ | ⟨_, op, hou, e⟩
    · exact rooted_old h.rooted hg' hne
    · exact absurd (e.symm.trans (hu op hou)) hne
  · rcases Array.mem_append.1 hop with hop | hop
    · exact h.shy op hop
    · exact hs op hop

/-- A worker's own. -/
def Soft (Wg : Nat) (Shun : Loc → Prop) (d : Nat) (es : Array Event) : Prop :=
  ((∀ e ∈ es, ∀ x, (MemAct.ofEvent e).touch? = some x → ShN Wg x.loc ∧ x.kind = .atomic) ∨ (d = 0 ∧ ∀ e ∈ es, e.loc ≠ .mark .disable ∧ e.loc ≠ .mark .enable)) ∧
  ∀ e ∈ es, ∀ x, (MemAct.ofEvent e).touch? = some x → Shun x.loc → x.kind ≠ .plain

theorem Extra.worker (h : Extra Wg Shun j t) {k : Nat} (h1 : 1 ≤ k) (hk : k ≤ j) (fn : FuncId) (pos : String) {es : Array Event} (hs : Soft Wg Shun (Deaf t k) es) : Extra Wg Shun j (t ++ MemOp.ofEvents k fn pos es) := by
  have hmem : ∀ {op : MemOp}, op ∈ MemOp.ofEvents k fn pos es → ∃ e ∈ es, op = { g := k, fn, pos, act := .ofEvent e } := fun h => Conc.mem_ofEvents h
  refine ⟨fun i op ho hg x hx => ?_, fun k' h1' h2' => ?_, fun i g hg hne => ?_, fun op hop x hx => ?_⟩
  · rcases getElem?_append_cases ho with ⟨hi, ho'⟩ | ⟨hge, hou⟩
    · exact (h.soft i op ho' hg x hx).imp id fun hh => (heard_old hi).2 hh
    · obtain ⟨e, he, rfl⟩ := hmem hou
      rcases hs.1 with hat | ⟨hd, hq⟩
      · exact .inl (hat e he x hx)
      · refine .inr ⟨k, by simp [Trace.g?, ho], ?_⟩
        have hle : i - t.size ≤ es.size := by
          have := lt_size_of_getElem? ho
          simp [ofEvents_eq] at this
          omega
        have := deaf_inside t k fn pos es (i - t.size) hle
        rw [show t.size + (i - t.size) = i by omega] at this
        rw [this, hd]
        exact Go.ConcN.deafBehind_idle (fun e' he' => hq e' (by
          obtain ⟨m, hm⟩ := Array.mem_iff_getElem?.1 he'
          rw [Array.getElem?_extract] at hm
          split at hm
          · exact Array.mem_of_getElem? hm
          · cases hm)) 0
  · obtain ⟨i, hi⟩ := h.here k' h1' h2'
    exact ⟨i, by rw [g?_old (g_lt hi)]; exact hi⟩
  · rcases g_append hg with ⟨_, hg'⟩ | ⟨hge, op, hou, e⟩
    · exact rooted_old h.rooted hg' hne
    · obtain ⟨_, _, rfl⟩ := hmem hou
      subst e
      obtain ⟨m, hm⟩ := h.here k h1 hk
      obtain ⟨p, hp, hb⟩ := rooted_old (u := MemOp.ofEvents k fn pos es) h.rooted hm hne
      have hml := g_lt hm
      exact ⟨p, hp, hb.trans (.single (.inl ⟨by omega, k, by rw [g?_old hml]; exact hm, hg⟩))⟩
  · rcases Array.mem_append.1 hop with hop | hop
    · exact h.shy op hop x hx
    · obtain ⟨e, he, rfl⟩ := hmem hop
      exact hs.2 e he x hx

/-- A go statement. -/
theorem Extra.fork (h : Extra Wg Shun j t) (h0 : Deaf t 0 = 0) (hd : Deaf t (j + 1) = 0) {x y : MemOp} (hx : x.g = 0 ∧ x.act = .go (j + 1)) (hy : y.g = j + 1 ∧ y.act = .start) : Extra Wg Shun (j + 1) (t ++ #[x, y]) := by
  have hxp : (t ++ #[x, y])[t.size]? = some x := by rw [Array.getElem?_append_right (Nat.le_refl _)]; simp
  have hyp : (t ++ #[x, y])[t.size + 1]? = some y := by rw [Array.getElem?_append_right (by omega)]; simp
  have hno : ∀ op ∈ (#[x, y] : Array MemOp), op.act.touch? = none := by
    intro op hop
    simp only [List.mem_toArray, List.mem_cons, List.not_mem_nil, or_false] at hop
    rcases hop with rfl | rfl
    · rw [hx.2]; rfl
    · rw [hy.2]; rfl
  have e0 : (t ++ #[x, y]).heard t.size := ⟨0, by simp [Trace.g?, hx.1], by rw [deaf_old (Nat.le_refl _)]; exact h0⟩
  have e1 : (t ++ #[x, y]).heard (t.size + 1) := ⟨j + 1, by simp [Trace.g?, hyp, hy.1], by rw [deaf_succ hxp, deaf_old (Nat.le_refl _)]; simp only [deafStep, hx.2]; exact hd⟩
  have hb : HappensBefore (t ++ #[x, y]) t.size (t.size + 1) := .single (.inr ⟨.spawn (child := j + 1) (by rw [act?_of hxp, hx.2]) (by rw [act?_of hyp, hy.2]) (by simp [Trace.g?, hyp, hy.1]), e0, e1⟩)
  refine ⟨fun i op ho hg z hz => ?_, fun k h1 h2 => ?_, fun i g hg hne => ?_, fun op hop z hz => ?_⟩
  · rcases getElem?_append_cases ho with ⟨hi, ho'⟩ | ⟨_, hou⟩
    · exact (h.soft i op ho' hg z hz).imp id fun hh => (heard_old hi).2 hh
    · rw [hno op hou] at hz; cases hz
  · by_cases e : k = j + 1
    · exact ⟨t.size + 1, by simp [Trace.g?, hyp, hy.1, e]⟩
    · obtain ⟨i, hi⟩ := h.here k h1 (by omega)
      exact ⟨i, by rw [g?_old (g_lt hi)]; exact hi⟩
  · rcases g_append hg with ⟨_, hg'⟩ | ⟨hge, _⟩
    · exact rooted_old h.rooted hg' hne
    · have hlt := g_lt hg
      simp at hlt
      have : i = t.size ∨ i = t.size + 1 := by omega
      rcases this with rfl | rfl
      · simp [Trace.g?, hx.1] at hg
        exact absurd hg.symm hne
      · exact ⟨t.size, by simp [Trace.g?, hx.1], hb⟩
  · rcases Array.mem_append.1 hop with hop | hop
    · exact h.shy op hop z hz
    · rw [hno op hop] at hz; cases hz
end

section
variable [Payload]
variable {P : Program} {ty : TypeId} {Wg C n : Nat} {Own Rd : Nat → Loc → Prop} {Lw : Nat → Nat} {val : Nat → Value} {vals : List Value} {AnchW : Goroutine → World → Prop} {Post : Value → World → Prop}
  {gs : Array Goroutine} {w : World} {j : Nat} {D : Nat → WD} {tag : CTag} {f0 d0 : Nat} {a : Goroutine} {t : Trace} {st sm : Int}

theorem goes_cases' {main : Bool} {R : World → World → Prop} {Dd : World → World → Array Event → Prop} {Stop : Goroutine → World → Prop} {m : Nat} {g : Goroutine} {w : World} (hr : R w w) (h : Goes P main R Dd Stop m g w) :
    Stop g w ∨ ∃ g' w' es, stepG P main g w = .go g' w' es ∧ Dd w w' es := by
  cases m with
  | zero => exact .inl (h w hr)
  | succ m =>
    rcases h with h | ⟨_, h⟩
    · exact .inl (h w hr)
    · right
      have := h w hr
      cases hs : stepG P main g w with
      | go g' w' es => rw [hs] at this; exact ⟨g', w', es, rfl, this.1⟩
      | _ => rw [hs] at this; exact this.elim

theorem soft_none {Shun : Loc → Prop} {d : Nat} {es : Array Event} (h : ∀ e ∈ es, (MemAct.ofEvent e).touch? = none) : Soft Wg Shun d es :=
  ⟨.inl (fun e he x hx => by
    rw [h e he] at hx
    cases hx), fun e he x hx => by
    rw [h e he] at hx
    cases hx⟩
theorem soft_bk {Shun : Loc → Prop} {d : Nat} {es : Array Event} (h : ∀ e ∈ es, Go.ConcR.Bk Wg e) : Soft Wg Shun d es := by
  have key : ∀ e ∈ es, ∀ x, (MemAct.ofEvent e).touch? = some x → ShN Wg x.loc ∧ x.kind = .atomic := by
    intro e he x hx
    rcases h e he with h1 | h1 | ⟨a, wr, rfl, ha⟩
    · rw [Go.ConcR.ofEvent_loc_mark h1] at hx; cases hx
    · rw [Go.ConcR.ofEvent_loc_mark h1] at hx; cases hx
    · simp only [Go.ConcR.ofEvent_cell, MemAct.touch?, Option.some.injEq] at hx
      subst hx
      exact ⟨⟨a, rfl, ha⟩, rfl⟩
  exact ⟨.inl key, fun e he x hx _ => by rw [(key e he x hx).2]; simp⟩

/-- What a worker's step lists. -/
theorem worker_soft {Shun : Loc → Prop} (hOw : ∀ k l, Own k l → ¬ Shun l) (hRd : ∀ k l, Rd k l → ¬ Shun l)
    (hcs : CSit P ty Wg C n Own Rd Lw val vals AnchW Post tag j f0 d0 a w) (hn : n < 2147483648) (hcom : Com P ty Wg C n Own Rd Lw val j gs w t D d0) (hwg : WgAt ty Wg w st sm) (hmode : ConcN.Mode j D tag st sm)
    {i : Nat} (hi : i < j) {g : Goroutine} (hg : gs[i + 1]? = some g) (hrun : g.status = .running) : ∃ g' w' es, stepG P false g w = .go g' w' es ∧ Soft Wg Shun (Deaf t (i + 1)) es := by
  obtain ⟨g₁, hg₁, hs⟩ := hcom.wk i hi
  obtain rfl : g = g₁ := by rw [hg] at hg₁; exact Option.some.inj hg₁
  have hdf := hcom.deafW i hi
  rw [hdf]
  obtain ⟨g', w', es, hgo⟩ := worker_goes hcs hn hcom hwg hmode hi hg hrun
  refine ⟨g', w', es, hgo, ?_⟩
  generalize hst : (D i).stage = s at hs
  generalize hfu : (D i).fuel = m at hs
  generalize hde : (D i).deaf = dd at hs ⊢
  have idle : ∀ {m Stop}, Goes P false (RW ty Wg C n (Lw (i + 1)) i) DC0 Stop m g w → (Stop g w → Soft Wg Shun dd es) → Soft Wg Shun dd es := by
    intro m Stop h hstop
    rcases goes_cases' (RW.refl w) h with h | ⟨g2, w2, es2, h2, hD⟩
    · exact hstop h
    · rw [hgo] at h2
      simp only [GStep.go.injEq] at h2
      obtain ⟨rfl, rfl, rfl⟩ := h2
      rw [hD.2]
      exact soft_none fun e he => by simp at he
  have same : ∀ {g2 w2 es2}, stepG P false g w = .go g2 w2 es2 → es = es2 := fun h => by
    rw [hgo] at h
    simp only [GStep.go.injEq] at h
    exact h.2.2
  have hb := hcs.bound
  have hVj := Vc_le j D
  cases hs with
  | r0 h =>
    rcases goes_cases' (RW.refl w) h with ⟨_, _, g2, h2, _⟩ | ⟨g2, w2, es2, h2, hD⟩
    · rw [same h2]
      exact soft_none fun e he => by simp at he; subst he; rfl
    · rw [same h2]
      refine ⟨.inr ⟨rfl, fun e he => ⟨(hD.2 e he).2.1, (hD.2 e he).2.2.1⟩⟩, fun e he x hx hsx => ?_⟩
      rcases ((hD.2 e he).1 0 "").2 x hx with ⟨_, h1, _⟩ | h1 | ⟨h1, _⟩
      · exact h1
      · exact absurd hsx (hOw _ _ h1)
      · exact absurd hsx (hRd _ _ h1)
  | k1 h =>
    refine idle h fun ⟨_, g2, h2, _⟩ => ?_
    rw [same h2]
    exact soft_bk bk_dis
  | d1 h =>
    refine idle h fun ⟨_, hall⟩ => ?_
    have hc1 : cnt (D i) = 1 := by simp [cnt, hst]
    have hV1 : 1 ≤ Vc j D := by have := le_sumTo (f := fun x => cnt (D x)) hi; simp only [Vc]; omega
    cases hmode with
    | opn h1 h2 h3 =>
      obtain ⟨v, hv⟩ : ∃ v, Vc j D + pend tag = v + 1 := ⟨Vc j D + pend tag - 1, by omega⟩
      rw [hv] at hwg
      have hw1 : WgAt ty Wg w (((v : Nat) + 1) * KK + ((0 : Nat) : Int)) 0 := by simpa using hwg
      obtain ⟨g2, h2, _⟩ := hall v 0 (by omega) (by omega) hw1
      rw [same h2]
      exact soft_bk bk_rw
    | reg h1 h2 h3 =>
      obtain ⟨v, hv⟩ : ∃ v, Vc j D = v + 1 := ⟨Vc j D - 1, by omega⟩
      rw [hv] at hwg
      have hw1 : WgAt ty Wg w (((v : Nat) + 1) * KK + ((1 : Nat) : Int)) 0 := by simpa using hwg
      obtain ⟨g2, h2, _⟩ := hall v 1 (by omega) (by omega) hw1
      rw [same h2]
      exact soft_bk bk_rw
    | last L' h1 h2 h3 h4 =>
      exfalso
      by_cases e : i = L'
      · subst e; omega
      · have := h4 i hi e; omega
    | sema h => exfalso; have := h i hi; omega
    | fin _ h => exfalso; have := h i hi; omega
  | d2 h =>
    refine idle h fun ⟨_, hall⟩ => ?_
    obtain ⟨_, _, e3, e4⟩ := hmode.isLast hi (by omega)
    rw [if_neg (by omega)] at e3
    subst e3 e4
    obtain ⟨g2, h2, _⟩ := hall hwg
    rw [same h2]
    exact soft_bk bk_rd
  | d3 h =>
    refine idle h fun ⟨_, hall⟩ => ?_
    obtain ⟨_, _, e3, e4⟩ := hmode.isLast hi (by omega)
    rw [if_neg (by omega)] at e3
    subst e3 e4
    obtain ⟨g2, h2, _⟩ := hall hwg
    rw [same h2]
    exact soft_bk fun e he => bk_rw e (by simp at he ⊢; exact .inr he)
  | d4 h =>
    refine idle h fun ⟨_, _, hall⟩ => ?_
    obtain ⟨_, _, e3, e4⟩ := hmode.isLast hi (by omega)
    rw [if_pos (by omega)] at e3
    subst e3 e4
    obtain ⟨g2, h2, _⟩ := hall hwg
    rw [same h2]
    exact soft_bk bk_sem
  | quit h =>
    cases m with
    | zero => exact absurd h.1 (by rw [hrun]; simp)
    | succ m =>
      rcases h with ⟨hf, _⟩ | ⟨_, g2, es2, hmu, hstp, _⟩
      · rw [hrun] at hf; cases hf
      · rw [same (hstp w)]
        exact soft_none fun e he => touch_mute (hmu e he)

/-- What a step of the starter's is. -/
theorem starter_goes (hn : n < 2147483648) (hl : vals.length = n) (hv : ∀ i, i < n → vals[i]? = some (val i))
    (hcs : CSit P ty Wg C n Own Rd Lw val vals AnchW Post tag j f0 d0 a w) (hcom : Com P ty Wg C n Own Rd Lw val j gs w t D d0) (hwg : WgAt ty Wg w st sm) (hmode : ConcN.Mode j D tag st sm)
    (hAnr : ∀ g w, AnchW g w → ∃ m, Goes P true (RC ty Wg C) (DP Wg Own Rd n (Lw n)) (AtW1 P ty Wg C n Own Rd (Lw n) vals AnchW Post) m g w) (hrun : a.status = .running) :
    (∃ a' w' es, stepG P true a w = .go a' w' es) ∨ (d0 = 0 ∧ ∃ a' child, stepG P true a w = .spawn a' child w #[]) ∨
    (d0 = 0 ∧ j = n ∧ AllQuit j D ∧ ∃ v es, stepG P true a w = .ended (.done v) w es ∧ Post v w ∧ ∀ e ∈ es, Ev0 Wg Own Rd n e) := by
  have hVj := Vc_le j D
  have hb := hcs.bound
  have w1 : ∀ {m}, Goes P true (RC ty Wg C) (DP Wg Own Rd n (Lw n)) (AtW1 P ty Wg C n Own Rd (Lw n) vals AnchW Post) m a w → j = n → isOpen tag → pend tag = 0 → ∃ a' w' es, stepG P true a w = .go a' w' es := by
    intro m h hj ho hp
    rcases goes_cases (RC.refl w) h with ⟨_, hall⟩ | h
    · obtain ⟨_, rfl, rfl, _⟩ := hmode.open_inv ho
      rw [hp] at hwg
      obtain ⟨a', hgo, _⟩ := hall (Vc j D) (by omega) (by simpa using hwg)
      exact ⟨_, _, _, hgo⟩
    · exact h
  cases hcs with
  | skd hr h =>
    rcases goes_cases (RC.refl w) h with ⟨_, a', hgo, _⟩ | h
    · exact .inl ⟨_, _, _, hgo⟩
    · exact .inl h
  | sa1 hr h =>
    rename_i r
    rcases goes_cases (RC.refl w) h with ⟨_, hall⟩ | h
    · obtain ⟨_, rfl, rfl, _⟩ := hmode.open_inv trivial
      obtain ⟨a', hgo, _⟩ := hall (Vc (n - (r + 1)) D) (by omega) (by simpa [pend] using hwg)
      exact .inl ⟨_, _, _, hgo⟩
    · exact .inl h
  | ske hr h =>
    rcases goes_cases (RC.refl w) h with ⟨_, a', hgo, _⟩ | h
    · exact .inl ⟨_, _, _, hgo⟩
    · exact .inl h
  | sgo hr h =>
    rcases goes_cases (RC.refl w) h with ⟨_, a', child, hgo, _⟩ | h
    · exact .inr (.inl ⟨rfl, _, _, hgo⟩)
    · exact .inl h
  | kd h =>
    rcases goes_cases (RC.refl w) h with ⟨_, a', hgo, _⟩ | h
    · exact .inl ⟨_, _, _, hgo⟩
    · exact .inl h
  | anch h =>
    rcases goes_cases (RC.refl w) h with hA | h
    · obtain ⟨m, hm⟩ := hAnr _ _ hA
      exact .inl (w1 hm rfl trivial rfl)
    · exact .inl h
  | w1 h => exact .inl (w1 h rfl trivial rfl)
  | w2 h =>
    rename_i vs
    rcases goes_cases (RC.refl w) h with ⟨_, hall⟩ | h
    · obtain ⟨_, rfl, rfl, _⟩ := hmode.open_inv trivial
      obtain ⟨e1, e2⟩ := hall (Vc n D) (by omega) (by simpa [pend] using hwg)
      by_cases e : Vc n D = vs
      · obtain ⟨a', hgo, _⟩ := e1 e
        exact .inl ⟨_, _, _, hgo⟩
      · obtain ⟨a', hgo, _⟩ := e2 e
        exact .inl ⟨_, _, _, hgo⟩
    · exact .inl h
  | w3 h =>
    rcases goes_cases (RC.refl w) h with ⟨_, _, e1, e2⟩ | h
    · cases hmode with
      | opn h1 _ _ => exact h1.elim
      | reg _ _ _ => exact .inl ⟨_, _, _, e1 ⟨_, hwg⟩⟩
      | last _ _ _ _ _ => exact .inl ⟨_, _, _, e1 ⟨_, hwg⟩⟩
      | sema _ =>
        obtain ⟨a', hgo, _⟩ := e2 hwg
        exact .inl ⟨_, _, _, hgo⟩
      | fin h1 _ => exact h1.elim
    · exact .inl h
  | blk h => cases hrun
  | w4 h =>
    rcases goes_cases (RC.refl w) h with ⟨_, hall⟩ | h
    · obtain ⟨_, rfl, rfl⟩ := hmode.fin_inv trivial
      obtain ⟨a', hgo, _⟩ := hall hwg
      exact .inl ⟨_, _, _, hgo⟩
    · exact .inl h
  | ke h =>
    rcases goes_cases (RC.refl w) h with ⟨_, a', hgo, _⟩ | h
    · exact .inl ⟨_, _, _, hgo⟩
    · exact .inl h
  | acq h =>
    rcases goes_cases (RC.refl w) h with ⟨_, a', hgo, _⟩ | h
    · exact .inl ⟨_, _, _, hgo⟩
    · exact .inl h
  | ret h =>
    rcases goes_cases (RC.refl w) h with ⟨_, hall⟩ | h
    · obtain ⟨hq, _, _⟩ := hmode.fin_inv trivial
      obtain ⟨v, es, hend, hev, hpost⟩ := hall (full_of hl hv hcom.pay fun i hi => hcom.has i hi (by rw [hq i hi]; omega))
      exact .inr (.inr ⟨rfl, rfl, hq, v, es, hend, hpost, hev⟩)
    · exact .inl h
/-- What the starter's step touches, one worker being started that holds the shunned places: none of them plainly. -/
theorem starter_shy {Shun : Loc → Prop} (hS : ∀ l, Shun l → Own 1 l) (hn : n < 2147483648) (hl : vals.length = n) (hv : ∀ i, i < n → vals[i]? = some (val i))
    (hcs : CSit P ty Wg C n Own Rd Lw val vals AnchW Post tag j f0 d0 a w) (hcom : Com P ty Wg C n Own Rd Lw val j gs w t D d0) (hwg : WgAt ty Wg w st sm) (hmode : ConcN.Mode j D tag st sm)
    (hAnr : ∀ g w, AnchW g w → ∃ m, Goes P true (RC ty Wg C) (DP Wg Own Rd n (Lw n)) (AtW1 P ty Wg C n Own Rd (Lw n) vals AnchW Post) m g w) (hj : 1 ≤ j) (hrun : a.status = .running) {a' : Goroutine} {w' : World} {es : Array Event} (hgo : stepG P true a w = .go a' w' es) :
    ∀ e ∈ es, ∀ x, (MemAct.ofEvent e).touch? = some x → Shun x.loc → x.kind ≠ .plain := by
  have hVj := Vc_le j D
  have hb := hcs.bound
  have same : ∀ {g2 w2 es2}, stepG P true a w = .go g2 w2 es2 → es = es2 := fun h => by
    rw [hgo] at h
    simp only [GStep.go.injEq] at h
    exact h.2.2
  have idle : ∀ {w2 : World} {es2 : Array Event} {i L : Nat}, 1 ≤ i → DP Wg Own Rd i L w w2 es2 → ∀ e ∈ es2, ∀ x, (MemAct.ofEvent e).touch? = some x → Shun x.loc → x.kind ≠ .plain := by
    intro w2 es2 i L hi hD e he x hx hs
    rcases ((hD.2 e he).1 0 "").2 x hx with ⟨_, h1⟩ | ⟨_, h1, _⟩
    · exact h1
    · exact absurd (hS _ hs) (h1 1 (Nat.le_refl _) hi)
  have bk : ∀ {es2 : Array Event}, (∀ e ∈ es2, Go.ConcR.Bk Wg e) → ∀ e ∈ es2, ∀ x, (MemAct.ofEvent e).touch? = some x → Shun x.loc → x.kind ≠ .plain := fun h => (soft_bk (Shun := Shun) (d := 0) h).2
  have no : ∀ {es2 : Array Event}, (∀ e ∈ es2, (MemAct.ofEvent e).touch? = none) → ∀ e ∈ es2, ∀ x, (MemAct.ofEvent e).touch? = some x → Shun x.loc → x.kind ≠ .plain := fun h => (soft_none (Wg := Wg) (Shun := Shun) (d := 0) h).2
  have w1 : ∀ {m}, Goes P true (RC ty Wg C) (DP Wg Own Rd n (Lw n)) (AtW1 P ty Wg C n Own Rd (Lw n) vals AnchW Post) m a w → j = n → isOpen tag → pend tag = 0 → ∀ e ∈ es, ∀ x, (MemAct.ofEvent e).touch? = some x → Shun x.loc → x.kind ≠ .plain := by
    intro m h hj' ho hp
    rcases goes_cases' (RC.refl w) h with ⟨_, hall⟩ | ⟨g2, w2, es2, h2, hD⟩
    · obtain ⟨_, rfl, rfl, _⟩ := hmode.open_inv ho
      rw [hp] at hwg
      obtain ⟨a', hgo2, _⟩ := hall (Vc j D) (by omega) (by simpa using hwg)
      rw [same hgo2]
      exact bk bk_rd
    · rw [same h2]
      exact idle (by omega) hD
  cases hcs with
  | skd hr h =>
    rcases goes_cases' (RC.refl w) h with ⟨_, a', h2, _⟩ | ⟨g2, w2, es2, h2, hD⟩
    · rw [same h2]; exact bk bk_dis
    · rw [same h2]; exact idle hj hD
  | sa1 hr h =>
    rename_i r
    rcases goes_cases' (RC.refl w) h with ⟨_, hall⟩ | ⟨g2, w2, es2, h2, hD⟩
    · obtain ⟨_, rfl, rfl, _⟩ := hmode.open_inv trivial
      obtain ⟨a', h2, _⟩ := hall (Vc (n - (r + 1)) D) (by omega) (by simpa [pend] using hwg)
      rw [same h2]; exact bk bk_rw
    · rw [same h2]; exact idle hj hD
  | ske hr h =>
    rcases goes_cases' (RC.refl w) h with ⟨_, a', h2, _⟩ | ⟨g2, w2, es2, h2, hD⟩
    · rw [same h2]; exact no fun e he => by simp at he; subst he; rfl
    · rw [same h2]; exact idle hj hD
  | sgo hr h =>
    rcases goes_cases' (RC.refl w) h with ⟨_, a', child, h2, _⟩ | ⟨g2, w2, es2, h2, hD⟩
    · rw [hgo] at h2; cases h2
    · rw [same h2]; exact idle hj hD
  | kd h =>
    rcases goes_cases' (RC.refl w) h with ⟨_, a', h2, _⟩ | ⟨g2, w2, es2, h2, hD⟩
    · rw [same h2]; exact bk bk_dis
    · rw [same h2]; exact idle hj hD
  | anch h =>
    rcases goes_cases' (RC.refl w) h with hA | ⟨g2, w2, es2, h2, hD⟩
    · obtain ⟨m, hm⟩ := hAnr _ _ hA
      exact w1 hm rfl trivial rfl
    · rw [same h2]; exact idle hj hD
  | w1 h => exact w1 h rfl trivial rfl
  | w2 h =>
    rename_i vs
    rcases goes_cases' (RC.refl w) h with ⟨_, hall⟩ | ⟨g2, w2, es2, h2, hD⟩
    · obtain ⟨_, rfl, rfl, _⟩ := hmode.open_inv trivial
      obtain ⟨e1, e2⟩ := hall (Vc n D) (by omega) (by simpa [pend] using hwg)
      by_cases e : Vc n D = vs
      · obtain ⟨a', h2, _⟩ := e1 e
        rw [same h2]; exact bk bk_rw
      · obtain ⟨a', h2, _⟩ := e2 e
        rw [same h2]; exact bk bk_rd
    · rw [same h2]; exact idle hj hD
  | w3 h =>
    rcases goes_cases' (RC.refl w) h with ⟨_, _, e1, e2⟩ | ⟨g2, w2, es2, h2, hD⟩
    · cases hmode with
      | opn h1 _ _ => exact h1.elim
      | reg _ _ _ => rw [same (e1 ⟨_, hwg⟩)]; exact no fun e he => by simp at he
      | last _ _ _ _ _ => rw [same (e1 ⟨_, hwg⟩)]; exact no fun e he => by simp at he
      | sema _ =>
        obtain ⟨a', h2, _⟩ := e2 hwg
        rw [same h2]; exact bk bk_sem
      | fin h1 _ => exact h1.elim
    · rw [same h2]; exact idle hj hD
  | blk h => cases hrun
  | w4 h =>
    rcases goes_cases' (RC.refl w) h with ⟨_, hall⟩ | ⟨g2, w2, es2, h2, hD⟩
    · obtain ⟨_, rfl, rfl⟩ := hmode.fin_inv trivial
      obtain ⟨a', h2, _⟩ := hall hwg
      rw [same h2]; exact bk bk_rd
    · rw [same h2]; exact idle hj hD
  | ke h =>
    rcases goes_cases' (RC.refl w) h with ⟨_, a', h2, _⟩ | ⟨g2, w2, es2, h2, hD⟩
    · rw [same h2]; exact no fun e he => by simp at he; subst he; rfl
    · rw [same h2]; exact idle hj hD
  | acq h =>
    rcases goes_cases' (RC.refl w) h with ⟨_, a', h2, _⟩ | ⟨g2, w2, es2, h2, hD⟩
    · rw [same h2]; exact no fun e he => by simp at he; subst he; rfl
    · rw [same h2]; exact idle hj hD
  | ret h =>
    rcases goes_cases' (RC.refl w) h with ⟨_, hall⟩ | ⟨g2, w2, es2, h2, hD⟩
    · obtain ⟨hq, _, _⟩ := hmode.fin_inv trivial
      obtain ⟨v, es, hend, hev, hpost⟩ := hall (full_of hl hv hcom.pay fun i hi => hcom.has i hi (by rw [hq i hi]; omega))
      rw [hgo] at hend; cases hend
    · rw [same h2]; exact idle hj hD
end
end Go.Veiled

namespace Go.Veiled
set_option linter.unusedSimpArgs false
set_option linter.unusedSectionVars false
set_option linter.unusedVariables false
open Go.Conc
open Go.ConcN (sumTo upd sumTo_upd upd_ne upd_same)

/-- Goroutine 0. -/
def Vg (fr : Frame) (cs : List Frame) (st : GoStatus) : Goroutine := { frame := fr, callers := cs, status := st, dying := none }
def ast : GoStatus → GoStatus
  | .blocked | .waiting => .running
  | s => s
def wst (P : Program) (g g' : Goroutine) (st : GoStatus) : GoStatus := if mayWake P g && g'.status != .blocked && g'.status != .waiting then ast st else st

theorem again_V (fr : Frame) (cs : List Frame) (st : GoStatus) (w : World) : (Vg fr cs st).again w = Vg fr cs (ast st) := by
  unfold Goroutine.again Vg ast
  cases st <;> rfl
theorem woken_V (P : Program) (g g' : Goroutine) (w' : World) (fr : Frame) (cs : List Frame) (st : GoStatus) : woken P g g' w' (Vg fr cs st) = Vg fr cs (wst P g g' st) := by
  unfold woken wst
  split
  · exact again_V _ _ _ _
  · rfl

section
variable {P : Program} {Shun Shun' : Loc → Prop} {Post1 Post : Value → World → Prop} {I1 I2 : Nat × Nat → Array Goroutine → World → Trace → Prop} {Lf : List FuncId}

/-- The great machine (gsR, T) goes in step with two crews that differ in the frame below alone. -/
structure Pace (P : Program) (I1 I2 : Nat × Nat → Array Goroutine → World → Trace → Prop) (Lf : List FuncId) (b1 b2 c : Frame) (m1 m2 l : List Frame) (L : Nat) (t0 : Trace) (μ1 μ2 : Nat × Nat) (gs1 gs2 gsR : Array Goroutine) (w : World) (t T : Trace)
    (q : Nat → Nat) (fr : Frame) (k : List Frame) (st : GoStatus) : Prop where
  i1 : I1 μ1 gs1 w t
  i2 : I2 μ2 gs2 w t
  z1 : gs1[0]? = some (Vg fr (k ++ (b1 :: m1)) st)
  z2 : gs2[0]? = some (Vg fr (k ++ (b2 :: m2)) st)
  zR : gsR[0]? = some (Vg fr (k ++ c :: l) st)
  s2 : gs2.size = gs1.size
  sR : gsR.size = L + gs1.size
  k2 : ∀ i : Nat, gs2[i + 1]? = gs1[i + 1]?
  kR : ∀ i : Nat, gsR[L + (i + 1)]? = gs1[i + 1]?
  old : ∀ (i : Nat) g, 0 < i → i ≤ L → gsR[i]? = some g → QuitsD P (q i) (Deaf T i) g
  within : Within L t0 t T
  hf : MildF P Lf fr
  hk : ∀ x ∈ k, MildF P Lf x

theorem get_put {gs : Array Goroutine} {f : Goroutine → Goroutine} {i j : Nat} {x : Goroutine} (h : i ≠ j) : ((gs.map f).setIfInBounds i x)[j]? = (gs[j]?).map f := by
  rw [Array.getElem?_setIfInBounds_ne h, Array.getElem?_map]
theorem get_put_self {gs : Array Goroutine} {f : Goroutine → Goroutine} {i : Nat} {x g : Goroutine} (h : gs[i]? = some g) : ((gs.map f).setIfInBounds i x)[i]? = some x := by
  have : i < gs.size := (Array.getElem?_eq_some_iff.1 h).1
  simp [this]

theorem deaf_ops (T : Trace) {γ j : Nat} (h : γ ≠ j) (fn : FuncId) (pos : String) (es : Array Event) : Deaf (T ++ MemOp.ofEvents γ fn pos es) j = Deaf T j :=
  Deaf_other T h _ (fun op hop => by obtain ⟨e, _, rfl⟩ := Conc.mem_ofEvents hop; rfl)

/-- What the phase comes to. -/
def Out (P : Program) (Shun Shun' : Loc → Prop) (Post : Value → World → Prop) (c : Frame) (l : List Frame) (gsR : Array Goroutine) (w : World) (sl : Option (Nat × Nat)) (T : Trace) : Prop :=
  ∃ (N : Nat) (gs' : Array Goroutine) (w' : World) (sl' : Option (Nat × Nat)) (T' : Trace) (q' : Nat → Nat) (B' : Nat) (u : Value),
    runNT P N (crowd gsR w sl) T = (.next (crowd gs' w' sl'), T') ∧ gs'[0]? = some (G (c.finish u) l) ∧ Leavers P T' gs' q' ∧ Past (fun x => Shun x ∨ Shun' x) B' T' ∧ Post u w'

theorem Out.step {c : Frame} {l : List Frame} {gsR gs' : Array Goroutine} {w w' : World} {sl sl' : Option (Nat × Nat)} {T : Trace} {ops : Trace}
    (h : stepT P (crowd gsR w sl) = (.next (crowd gs' w' sl'), ops)) (ho : Out P Shun Shun' Post c l gs' w' sl' (T ++ ops)) : Out P Shun Shun' Post c l gsR w sl T := by
  obtain ⟨N, gs2, w2, sl2, T2, q2, B2, u, h1, h2⟩ := ho
  exact ⟨N + 1, gs2, w2, sl2, T2, q2, B2, u, by simp only [runNT, h]; exact h1, h2⟩

/-- At the return. -/
theorem settle {L : Nat} {t0 t T : Trace} {B : Nat} {gs1 gsR : Array Goroutine} {q : Nat → Nat} (hP : Past Shun B t0) (hS : Settled P Shun Shun' gs1 t) (hW : Within L t0 t T) (sR : gsR.size = L + gs1.size) (h1 : 0 < gs1.size) (kR : ∀ i : Nat, gsR[L + (i + 1)]? = gs1[i + 1]?)
    (old : ∀ (i : Nat) g, 0 < i → i ≤ L → gsR[i]? = some g → QuitsD P (q i) (Deaf T i) g) : ∃ q' B', Leavers P T gsR q' ∧ Past (fun x => Shun x ∨ Shun' x) B' T := by
  obtain ⟨φ, S⟩ := hW
  obtain ⟨B1, hB1⟩ := low_bound t
  have hp := past_of_sown hP (Nat.le_max_left B B1) S hS.clean hS.known hS.rooted hS.shy (fun op hop => MemAct.low_mono (Nat.le_max_right B B1) (hB1 op hop)) hS.over hS.hear
  have hren : ∀ i, ren L (i + 1) = L + (i + 1) := fun i => by simp [ren]
  classical
  have hq : ∀ i : Nat, ∃ m, ∀ g, gs1[i + 1]? = some g → QuitsD P m (Deaf t (i + 1)) g := fun i => by
    cases hg : gs1[i + 1]? with
    | none => exact ⟨0, fun g h => by cases h⟩
    | some g =>
      obtain ⟨m, hm⟩ := hS.left i g hg
      exact ⟨m, fun g' h => by cases h; exact hm⟩
  refine ⟨fun i => if i ≤ L then q i else (hq (i - L - 1)).choose, max B B1, ⟨fun i g hi hg => ?_, fun j hj => ?_⟩, hp⟩
  · by_cases hle : i ≤ L
    · simp only [if_pos hle]
      exact old i g hi hle hg
    · simp only [if_neg hle]
      obtain ⟨m, rfl⟩ : ∃ m, i = L + (m + 1) := ⟨i - L - 1, by omega⟩
      have e : L + (m + 1) - L - 1 = m := by omega
      rw [e]
      have := (hq m).choose_spec g (by rw [← kR]; exact hg)
      rw [← hren, S.dfe]
      exact this
  · obtain ⟨m, rfl⟩ : ∃ m, j = L + (m + 1) := ⟨j - L - 1, by omega⟩
    rw [← hren, S.dfe]
    exact hS.above _ (by omega)

/-- ████ THE PHASE IN THE GREAT MACHINE. ████ -/
theorem phase_run (hM : MildP P Lf) (C1 : Crew P Shun Shun' Post1 I1) (C2 : Crew P Shun Shun' Post I2) {b1 b2 c : Frame} {m1 m2 l : List Frame} (hb1 : Door P b1 m1) (hb2 : Sill P b2 m2) {L : Nat} {t0 : Trace} {B : Nat} (hP : Past Shun B t0) :
    ∀ (μ : Nat × Nat) (μ1 μ2 : Nat × Nat) (gs1 gs2 gsR : Array Goroutine) (w : World) (sl : Option (Nat × Nat)) (t T : Trace) (q : Nat → Nat) (fr : Frame) (k : List Frame) (st : GoStatus),
      μ = (μ1.1, μ1.2 + 2 * sumTo (L + 1) q) → Pace P I1 I2 Lf b1 b2 c m1 m2 l L t0 μ1 μ2 gs1 gs2 gsR w t T q fr k st → Out P Shun Shun' Post c l gsR w sl T := by
  intro μ
  refine (Prod.lex Nat.lt_wfRel Nat.lt_wfRel).wf.induction (C := fun μ => ∀ (μ1 μ2 : Nat × Nat) (gs1 gs2 gsR : Array Goroutine) (w : World) (sl : Option (Nat × Nat)) (t T : Trace) (q : Nat → Nat) (fr : Frame) (k : List Frame) (st : GoStatus),
      μ = (μ1.1, μ1.2 + 2 * sumTo (L + 1) q) → Pace P I1 I2 Lf b1 b2 c m1 m2 l L t0 μ1 μ2 gs1 gs2 gsR w t T q fr k st → Out P Shun Shun' Post c l gsR w sl T) μ ?_
  clear μ
  intro μ ih μ1 μ2 gs1 gs2 gsR w sl t T q fr k st hμ A
  have less : ∀ {μ1' : Nat × Nat}, Less μ1' μ1 → Prod.Lex (· < ·) (· < ·) (μ1'.1, μ1'.2 + 2 * sumTo (L + 1) q) μ := by
    rintro ⟨x, y⟩ h
    rw [hμ]
    obtain ⟨x0, y0⟩ := μ1
    cases h with
    | left _ _ h => exact .left _ _ h
    | right _ h => exact .right _ (by simp only; omega)
  -- who is picked
  have hlen : 0 < gs1.size := (Array.getElem?_eq_some_iff.1 A.z1).1
  have haw : ∀ g ∈ gsR, awake g := by
    intro g hg
    obtain ⟨i, hi⟩ := Array.mem_iff_getElem?.1 hg
    rcases Nat.eq_zero_or_pos i with rfl | hpos
    · rw [A.zR] at hi
      cases hi
      have hz := (C1.awake A.i1).1 _ (Array.mem_of_getElem? A.z1)
      exact fun tm h => hz tm h
    · by_cases hL : i ≤ L
      · exact awake_of ((A.old i g hpos hL hi).status.elim .inl fun x => .inr (.inr x))
      · obtain ⟨m, rfl⟩ : ∃ m, i = L + (m + 1) := ⟨i - L - 1, by omega⟩
        rw [A.kR] at hi
        exact (C1.awake A.i1).1 _ (Array.mem_of_getElem? hi)
  have hsome : ∃ (i : Nat) (g : Goroutine), gsR[i]? = some g ∧ g.status = .running := by
    obtain ⟨i, g, hi, hg⟩ := (C1.awake A.i1).2
    cases i with
    | zero =>
      rw [A.z1] at hi
      cases hi
      exact ⟨0, _, A.zR, hg⟩
    | succ i => exact ⟨L + (i + 1), g, by rw [A.kR]; exact hi, hg⟩
  obtain ⟨i, g, d, sl', hi, hg, hst⟩ := crowd_pick (P := P) (w := w) (sl := sl) haw hsome
  have A1 := C1.at_ A.i1 d
  have A2 := C2.at_ A.i2 d
  rcases Nat.eq_zero_or_pos i with rfl | hpos
  · -- the starter
    rw [A.zR] at hi
    cases hi
    have hst1 : st = .running := hg
    subst hst1
    have e1 : Vg fr (k ++ (b1 :: m1)) .running = G fr (k ++ (b1 :: m1)) := rfl
    have e2 : Vg fr (k ++ (b2 :: m2)) .running = G fr (k ++ (b2 :: m2)) := rfl
    have eR : Vg fr (k ++ c :: l) .running = G fr (k ++ c :: l) := rfl
    have z1 := A.z1
    have z2 := A.z2
    have zR := A.zR
    rw [e1] at z1
    rw [e2] at z2
    rw [eR] at zR
    cases nat_step hM A.hf A.hk (w.at d) with
    | bad hbad => exact (C1.no_bad A1 z1 rfl (hbad (b1 :: m1))).elim
    | raise ch es hk0 hs =>
      subst hk0
      obtain ⟨n, hn⟩ := hb1.raise ch (w.at d)
      exact (C1.no_fall (n + 1) A1 z1 rfl ⟨_, _, _, hs b1 m1, rfl, hn⟩).elim
    | backD w' es hk0 _ hs =>
      subst hk0
      obtain ⟨n, hn⟩ := hb1.back w'
      exact (C1.no_fall (n + 1) A1 z1 rfl ⟨_, _, _, hs b1 m1 hb1.mode, rfl, hn⟩).elim
    | back u w' es hk0 _ hs =>
      subst hk0
      have h1 := hs b1 m1
      have h2 := hs b2 m2
      have hR := hs c l
      rcases C1.starter A1 z1 rfl with ⟨a', w2, es2, hs1, _, μ1', hl1, j1⟩ | ⟨a', child, hs1, _⟩ | ⟨v, w2, es2, hs1, _⟩
      · rw [show stepG P true (G fr ([] ++ (b1 :: m1))) (w.at d) = _ from h1] at hs1
        simp only [GStep.go.injEq] at hs1
        obtain ⟨rfl, rfl, rfl⟩ := hs1
        rcases C2.starter A2 z2 rfl with ⟨a', w2, es2, hs2, _, μ2', hl2, j2⟩ | ⟨a', child, hs2, _⟩ | ⟨v, w2, es2, hs2, _⟩
        · rw [show stepG P true (G fr ([] ++ (b2 :: m2))) (w.at d) = _ from h2] at hs2
          simp only [GStep.go.injEq] at hs2
          obtain ⟨rfl, rfl, rfl⟩ := hs2
          obtain ⟨n1, hn1⟩ := hb1.fin u w'
          obtain ⟨n2, hn2⟩ := hb2.fin u w'
          have hset := (C1.comes n1 j1 (get_put_self z1) rfl hn1).1
          obtain ⟨_, v, w3, ⟨rfl, rfl⟩, hpost⟩ := C2.comes n2 j2 (get_put_self z2) rfl hn2
          have hrunT := runT_crowd_go (P := P) (sl := sl') (i := 0) zR (show stepG P (0 == 0) _ (w.at d) = _ from hR)
          obtain ⟨q', B', hL', hP'⟩ := settle (gsR := (gsR.map (woken P (G fr ([] ++ c :: l)) (G (c.finish v) l) w3)).setIfInBounds 0 (G (c.finish v) l)) (q := q) hP hset (A.within.events 0 fr.fn fr.place es) (by simp [A.sR]) (by simp [hlen])
            (fun i => by
              rw [get_put (by omega), get_put (by omega), A.kR]
              rfl)
            (fun i x hi0 hiL hx => by
              rw [get_put (by omega)] at hx
              obtain ⟨y, hy, rfl⟩ := Option.map_eq_some_iff.1 hx
              have hy' := A.old i y hi0 hiL hy
              rw [woken_quitsD hy', show ren L 0 = 0 from rfl, deaf_ops T (by omega)]
              exact hy')
          exact ⟨1, _, w3, sl', _, q', B', v, by simp only [runNT, hst, hrunT]; rfl, get_put_self zR, hL', hP', hpost⟩
        · rw [show stepG P true (G fr ([] ++ (b2 :: m2))) (w.at d) = _ from h2] at hs2; cases hs2
        · rw [show stepG P true (G fr ([] ++ (b2 :: m2))) (w.at d) = _ from h2] at hs2; cases hs2
      · rw [show stepG P true (G fr ([] ++ (b1 :: m1))) (w.at d) = _ from h1] at hs1; cases hs1
      · rw [show stepG P true (G fr ([] ++ (b1 :: m1))) (w.at d) = _ from h1] at hs1; cases hs1
    | spawn fr' child w' es hf' hs =>
      have h1 := hs (b1 :: m1)
      have h2 := hs (b2 :: m2)
      have hR := hs (c :: l)
      rcases C1.starter A1 z1 rfl with ⟨a', w2, es2, hs1, _⟩ | ⟨a', child2, hs1, μ1', hl1, j1⟩ | ⟨v, w2, es2, hs1, _⟩
      · rw [h1] at hs1; cases hs1
      · rw [h1] at hs1
        simp only [GStep.spawn.injEq] at hs1
        obtain ⟨rfl, rfl, rfl, rfl⟩ := hs1
        rcases C2.starter A2 z2 rfl with ⟨a', w2, es2, hs2, _⟩ | ⟨a', child2, hs2, μ2', hl2, j2⟩ | ⟨v, w2, es2, hs2, _⟩
        · rw [h2] at hs2; cases hs2
        · rw [h2] at hs2
          simp only [GStep.spawn.injEq] at hs2
          obtain ⟨rfl, rfl, _, _⟩ := hs2
          have hrunT := runT_crowd_spawn (P := P) (sl := sl') (i := 0) zR (show stepG P (0 == 0) _ (w.at d) = _ from hR)
          refine Out.step (hst.trans hrunT) (ih _ (less hl1) μ1' μ2' ((gs1.setIfInBounds 0 (G fr' (k ++ (b1 :: m1)))).push child) ((gs2.setIfInBounds 0 (G fr' (k ++ (b2 :: m2)))).push child) _ _ _ (t ++ #[{ g := 0, fn := fr.fn, pos := fr.place, act := .go gs1.size }, { g := gs1.size, fn := child.frame.fn, pos := fr.place, act := .start }]) _ q fr' k .running rfl ?_)
          have hget : ∀ (gs : Array Goroutine) (x : Goroutine) (j : Nat), j ≠ 0 → ((gs.setIfInBounds 0 x).push child)[j]? = if j = gs.size then some child else gs[j]? := by
            intro gs x j hj
            rw [Array.getElem?_push]
            simp only [Array.size_setIfInBounds]
            split
            · rfl
            · rw [Array.getElem?_setIfInBounds_ne (by omega)]
          have hget0 : ∀ (gs : Array Goroutine) (x : Goroutine), 0 < gs.size → ((gs.setIfInBounds 0 x).push child)[0]? = some x := by
            intro gs x hp
            rw [Array.getElem?_push]
            simp only [Array.size_setIfInBounds]
            rw [if_neg (by omega)]
            simp [hp]
          have hlen2 : 0 < gs2.size := by rw [A.s2]; exact hlen
          refine ⟨j1, by rw [A.s2] at j2; exact j2, hget0 _ _ hlen, hget0 _ _ hlen2, hget0 _ _ (by rw [A.sR]; omega), by simp [A.s2], by simp [A.sR]; omega, fun i => ?_, fun i => ?_, fun i x hi0 hiL hx => ?_, ?_, hf', A.hk⟩
          · rw [hget _ _ _ (by omega), hget _ _ _ (by omega), A.s2, A.k2]
          · rw [hget _ _ _ (by omega), hget _ _ _ (by omega), A.sR, A.kR]
            by_cases e : i + 1 = gs1.size
            · rw [if_pos e, if_pos (by omega)]
            · rw [if_neg e, if_neg (by omega)]
          · rw [hget _ _ _ (by omega), if_neg (by rw [A.sR]; omega)] at hx
            have := A.old i x hi0 hiL hx
            rw [Go.ConcN.Deaf_still T i _ fun op hop => by
              simp [ofEvents_eq] at hop
              rcases hop with rfl | rfl <;> simp]
            exact this
          · have := A.within.ops #[{ g := 0, fn := fr.fn, pos := fr.place, act := .go gs1.size }, { g := gs1.size, fn := child.frame.fn, pos := fr.place, act := .start }]
            have er : ren L gs1.size = gsR.size := by
              unfold ren
              rw [if_neg (by omega)]
              exact A.sR.symm
            have e3 : (#[{ g := 0, fn := fr.fn, pos := fr.place, act := .go gs1.size }, { g := gs1.size, fn := child.frame.fn, pos := fr.place, act := .start }] : Array MemOp).map (renO L) = ((MemOp.ofEvents 0 fr.fn fr.place #[]).push { g := 0, fn := fr.fn, pos := fr.place, act := .go gsR.size }).push { g := gsR.size, fn := child.frame.fn, pos := fr.place, act := .start } := by
              simp [renO, renA, er, ofEvents_eq, show ren L 0 = 0 from rfl]
            rw [e3] at this
            exact this
        · rw [h2] at hs2; cases hs2
      · rw [h1] at hs1; cases hs1
    | on fr' k' st' w' es hf' hk' _ hs =>
      have h1 := hs (b1 :: m1)
      have h2 := hs (b2 :: m2)
      have hR := hs (c :: l)
      rcases C1.starter A1 z1 rfl with ⟨a', w2, es2, hs1, _, μ1', hl1, j1⟩ | ⟨a', child, hs1, _⟩ | ⟨v, w2, es2, hs1, _⟩
      · rw [h1] at hs1
        simp only [GStep.go.injEq] at hs1
        obtain ⟨rfl, rfl, rfl⟩ := hs1
        rcases C2.starter A2 z2 rfl with ⟨a', w2, es2, hs2, _, μ2', hl2, j2⟩ | ⟨a', child, hs2, _⟩ | ⟨v, w2, es2, hs2, _⟩
        · rw [h2] at hs2
          simp only [GStep.go.injEq] at hs2
          obtain ⟨rfl, rfl, rfl⟩ := hs2
          have hrunT := runT_crowd_go (P := P) (sl := sl') (i := 0) zR (show stepG P (0 == 0) _ (w.at d) = _ from hR)
          refine Out.step (hst.trans hrunT) (ih _ (less hl1) μ1' μ2' _ _ _ _ _ _ _ q fr' k' st' rfl ⟨j1, j2, get_put_self z1, get_put_self z2, get_put_self zR, by simp [A.s2], by simp [A.sR], fun i => ?_, fun i => ?_, fun i x hi0 hiL hx => ?_, A.within.events 0 fr.fn fr.place es, hf', hk'⟩)
          · rw [get_put (by omega), get_put (by omega), A.k2]
            rfl
          · rw [get_put (by omega), get_put (by omega), A.kR]
            rfl
          · rw [get_put (by omega)] at hx
            obtain ⟨y, hy, rfl⟩ := Option.map_eq_some_iff.1 hx
            have hy' := A.old i y hi0 hiL hy
            rw [woken_quitsD hy', deaf_ops T (by omega)]
            exact hy'
        · rw [h2] at hs2; cases hs2
        · rw [h2] at hs2; cases hs2
      · rw [h1] at hs1; cases hs1
      · rw [h1] at hs1; cases hs1
  · by_cases hiL : i ≤ L
    · -- one of those that were there before
      have hq := A.old i g hpos hiL hi
      cases hqi : q i with
      | zero => rw [hqi] at hq; rw [hq.1] at hg; cases hg
      | succ m =>
        rw [hqi] at hq
        rcases hq with ⟨hf, _⟩ | ⟨_, g', es, hm, hstp, hq'⟩
        · rw [hf] at hg; cases hg
        have hi0 : (i == 0) = false := by simp; omega
        have hrunT := runT_crowd_go (P := P) (sl := sl') (i := i) hi (by rw [hi0]; exact hstp (w.at d))
        have hsum : sumTo (L + 1) (upd q i m) + (m + 1) = sumTo (L + 1) q + m := by
          have := sumTo_upd q m id (show i < L + 1 by omega)
          simpa [hqi] using this
        -- the starter may be woken
        have hwake : ∃ (μ1' μ2' : Nat × Nat) (gs1' gs2' : Array Goroutine), μ1'.1 = μ1.1 ∧ μ1'.2 ≤ μ1.2 + 1 ∧ I1 μ1' gs1' (w.at d) t ∧ I2 μ2' gs2' (w.at d) t ∧ gs1'.size = gs1.size ∧ gs2'.size = gs2.size ∧
            gs1'[0]? = some (Vg fr (k ++ (b1 :: m1)) (wst P g g' st)) ∧ gs2'[0]? = some (Vg fr (k ++ (b2 :: m2)) (wst P g g' st)) ∧ (∀ j : Nat, gs1'[j + 1]? = gs1[j + 1]?) ∧ (∀ j : Nat, gs2'[j + 1]? = gs2[j + 1]?) := by
          by_cases hw : (mayWake P g && g'.status != .blocked && g'.status != .waiting) = true
          · obtain ⟨μ1', a1, a2, a3⟩ := C1.again A1 A.z1
            obtain ⟨μ2', _, _, a4⟩ := C2.again A2 A.z2
            rw [again_V] at a3 a4
            have ew : wst P g g' st = ast st := by unfold wst; rw [if_pos hw]
            have hlen2 : 0 < gs2.size := by rw [A.s2]; exact hlen
            refine ⟨μ1', μ2', _, _, a1, a2, a3, a4, by simp, by simp, by rw [ew]; simp [hlen], by rw [ew]; simp [hlen2], fun j => ?_, fun j => ?_⟩ <;> rw [Array.getElem?_setIfInBounds_ne (by omega)]
          · have ew : wst P g g' st = st := by unfold wst; rw [if_neg hw]
            exact ⟨μ1, μ2, gs1, gs2, rfl, by omega, A1, A2, rfl, rfl, by rw [ew]; exact A.z1, by rw [ew]; exact A.z2, fun _ => rfl, fun _ => rfl⟩
        obtain ⟨μ1', μ2', gs1', gs2', x1, x2, y1, y2, n1, n2, o1, o2, p1, p2⟩ := hwake
        refine Out.step (hst.trans hrunT) (ih _ ?_ μ1' μ2' gs1' gs2' _ _ _ t _ (upd q i m) fr k (wst P g g' st) rfl ⟨y1, y2, o1, o2, ?_, by rw [n1, n2, A.s2], by simp [A.sR, n1], fun j => by rw [p1, p2, A.k2], fun j => ?_, fun j x hj0 hjL hx => ?_, A.within.mutes (by omega) hiL _ _ hm, A.hf, A.hk⟩)
        · rw [hμ, x1]
          refine .right _ ?_
          show μ1'.2 + 2 * sumTo (L + 1) (upd q i m) < μ1.2 + 2 * sumTo (L + 1) q
          omega
        · rw [get_put (by omega), A.zR, Option.map_some, woken_V]
        · rw [get_put (by omega), A.kR, p1]
          cases hgj : gs1[j + 1]? with
          | none => rfl
          | some y => simp [C1.wk A1 hgj]
        · by_cases hij : i = j
          · subst hij
            rw [get_put_self hi] at hx
            cases hx
            rw [upd_same, Deaf_own]
            exact hq'
          · rw [get_put hij] at hx
            obtain ⟨y, hy, rfl⟩ := Option.map_eq_some_iff.1 hx
            have hy' := A.old j y hj0 hjL hy
            rw [woken_quitsD hy', upd_ne q m (Ne.symm hij), deaf_ops T hij]
            exact hy'
    · -- a worker
      obtain ⟨m, rfl⟩ : ∃ m, i = L + (m + 1) := ⟨i - L - 1, by omega⟩
      have hi1 : gs1[m + 1]? = some g := by rw [← A.kR]; exact hi
      have hi2 : gs2[m + 1]? = some g := by rw [A.k2]; exact hi1
      obtain ⟨g', w', es, hs1, μ1', hl1, j1⟩ := C1.worker A1 hi1 hg
      obtain ⟨g2, w2, es2, hs2, μ2', hl2, j2⟩ := C2.worker A2 hi2 hg
      rw [hs1] at hs2
      simp only [GStep.go.injEq] at hs2
      obtain ⟨rfl, rfl, rfl⟩ := hs2
      have hi0 : ((L + (m + 1)) == 0) = false := by simp
      have hrunT := runT_crowd_go (P := P) (sl := sl') (i := L + (m + 1)) hi (by rw [hi0]; exact hs1)
      have hev := A.within.events (m + 1) g.frame.fn g.frame.place es
      rw [show ren L (m + 1) = L + (m + 1) by simp [ren]] at hev
      refine Out.step (hst.trans hrunT) (ih _ (less hl1) μ1' μ2' _ _ _ _ _ _ _ q fr k (wst P g g' st) rfl ⟨j1, j2, ?_, ?_, ?_, by simp [A.s2], by simp [A.sR], fun j => ?_, fun j => ?_, fun j x hj0 hjL hx => ?_, hev, A.hf, A.hk⟩)
      · rw [get_put (by omega), A.z1, Option.map_some, woken_V]
      · rw [get_put (by omega), A.z2, Option.map_some, woken_V]
      · rw [get_put (by omega), A.zR, Option.map_some, woken_V]
      · by_cases e : m = j
        · subst e
          rw [get_put_self hi1, get_put_self hi2]
        · rw [get_put (by omega), get_put (by omega), A.k2]
      · by_cases e : m = j
        · subst e
          rw [get_put_self hi1, get_put_self hi]
        · rw [get_put (by omega), get_put (by omega), A.kR]
      · rw [get_put (by omega)] at hx
        obtain ⟨y, hy, rfl⟩ := Option.map_eq_some_iff.1 hx
        have hy' := A.old j y hj0 hjL hy
        rw [woken_quitsD hy', deaf_ops T (by omega)]
        exact hy'
end
end Go.Veiled

namespace Go.Veiled
set_option linter.unusedSimpArgs false
set_option linter.unusedSectionVars false
set_option linter.unusedVariables false
open Go.Conc Go.ConcN
open Go.ConcR (KK wgBlock WgAt stA smA rd wr mk Payload Aside2 DC0)
variable [Payload]

section
variable {P : Program} {ty : TypeId} {Wg C n : Nat} {Own Rd : Nat → Loc → Prop} {Lw : Nat → Nat} {val : Nat → Value} {vals : List Value} {AnchW : Goroutine → World → Prop} {Post : Value → World → Prop} {Shun : Loc → Prop}

theorem inv_open {μ : Nat × Nat} {gs : Array Goroutine} {w : World} {t : Trace} (h : Inv P ty Wg C n Own Rd Lw val vals AnchW Post μ (crowd gs w none) t) :
    ∃ (j : Nat) (D : Nat → WD) (tag : CTag) (f0 d0 : Nat) (a : Goroutine) (st sm : Int), gs[0]? = some a ∧ CSit P ty Wg C n Own Rd Lw val vals AnchW Post tag j f0 d0 a w ∧ Com P ty Wg C n Own Rd Lw val j gs w t D d0 ∧ WgAt ty Wg w st sm ∧ ConcN.Mode j D tag st sm ∧
      (tag = .ret → AcqAll Wg j t) ∧ μ = (phi n (Vc j D) tag + Ssum j D, f0 + 2 * Fsum j D) := by
  obtain ⟨gs', w', sl', j, D, tag, f0, d0, a, st, sm, hm, ha, hcs, hcom, hwg, hmode, hacq, e⟩ := h
  simp only [crowd, Machine.mk.injEq, Rest.mk.injEq] at hm
  obtain ⟨rfl, rfl, _⟩ := hm
  exact ⟨j, D, tag, f0, d0, a, st, sm, ha, hcs, hcom, hwg, hmode, hacq, e⟩

/-- Touches none of the shunned places plainly. -/
def ShyEs (Shun : Loc → Prop) (es : Array Event) : Prop := ∀ e ∈ es, ∀ x, (MemAct.ofEvent e).touch? = some x → Shun x.loc → x.kind ≠ .plain
/-- Alone, to the first go statement: none of the shunned places is touched plainly (n steps looked at). -/
def FirstN (P : Program) (Shun : Loc → Prop) : Nat → Goroutine → World → Prop
  | 0, _, _ => True
  | n + 1, g, w => g.status = .running ∧ ∀ (d : Nat) (g' : Goroutine) (w' : World) (es : Array Event), stepG P true g (w.at d) = .go g' w' es → ShyEs Shun es ∧ FirstN P Shun n g' w'
def First (P : Program) (Shun : Loc → Prop) (g : Goroutine) (w : World) : Prop := ∀ n, FirstN P Shun n g w

/-- What is held of the crowd; OwnS: as Own, the shunned places being given to the first. -/
def CrewI (P : Program) (ty : TypeId) (Wg C n : Nat) (Own OwnS Rd : Nat → Loc → Prop) (Lw : Nat → Nat) (val : Nat → Value) (vals : List Value) (AnchW : Goroutine → World → Prop) (Post : Value → World → Prop) (Shun : Loc → Prop) (μ : Nat × Nat) (gs : Array Goroutine) (w : World) (t : Trace) : Prop :=
  Inv P ty Wg C n Own Rd Lw val vals AnchW Post μ (crowd gs w none) t ∧ (∃ μ2, Inv P ty Wg C n OwnS Rd Lw val vals AnchW Post μ2 (crowd gs w none) t) ∧ (∃ j, gs.size = j + 1 ∧ Extra Wg Shun j t) ∧ (gs.size = 1 → ∀ a, gs[0]? = some a → First P Shun a w)

theorem settled_of {gs : Array Goroutine} {w : World} {t s : Trace} {j : Nat} {D : Nat → WD} (hE : Extra Wg Shun j s) (hsz : gs.size = j + 1) (clean : ∀ said, ¬ Race said s) (over : s.HandedOver) (hear : Deaf s 0 = 0)
    (left : ∀ i g, gs[i + 1]? = some g → ∃ q, QuitsD P q (Deaf s (i + 1)) g) (hgs : ∀ (i : Nat) (op : MemOp), s[i]? = some op → op.g ≤ j) : Settled P Shun (ShN Wg) gs s := by
  refine ⟨clean, fun i a ha hm => ?_, hE.rooted, fun i a ha hs => ?_, over, hear, left, fun k hk => Deaf_absent fun i op hi e => by have := hgs i op hi; omega⟩
  · obtain ⟨x, hx, hxa⟩ := touch_of ha
    by_cases h0 : x.g = 0
    · have := knows_own hx
      rw [h0] at this
      exact .inl this
    · rcases hE.soft i x hx h0 a hxa with hs | hh
      · exact .inr hs
      · obtain ⟨p, hp, hb⟩ := over i x.g (by simp [Trace.g?, hx]) h0 ⟨a, ha, hm, .inr hh⟩
        obtain ⟨y, hy, hyg⟩ := Option.map_eq_some_iff.1 hp
        exact .inl ⟨p, y, hy, hyg, .inr hb⟩
  · obtain ⟨x, hx, hxa⟩ := touch_of ha
    exact hE.shy x (Array.mem_of_getElem? hx) a hxa hs

theorem First.running {g : Goroutine} {w : World} (h : First P Shun g w) : g.status = .running := (h 1).1
theorem First.at {g : Goroutine} {w : World} (h : First P Shun g w) (d : Nat) : First P Shun g (w.at d) := fun n => by
  cases n with
  | zero => trivial
  | succ n => exact ⟨(h (n + 1)).1, fun d' g' w' es hs => (h (n + 1)).2 d' g' w' es hs⟩
theorem First.step {g g' : Goroutine} {w w' : World} {es : Array Event} (h : First P Shun g w) (hs : stepG P true g w = .go g' w' es) : ShyEs Shun es ∧ First P Shun g' w' :=
  ⟨((h 1).2 w.drawn g' w' es hs).1, fun n => ((h (n + 1)).2 w.drawn g' w' es hs).2⟩

theorem first_stage {Low : Nat} (hS : ∀ l, Shun l → Own 1 l) {Stop : Goroutine → World → Prop} {X : World → Prop} (hX : ∀ w w' d, (∀ b, b < Low → w'.heap[b]? = (w.at d).heap[b]?) → X w → X w') (hStop : ∀ g w, (∀ d, Stop g (w.at d)) → X w → First P Shun g w) :
    ∀ (k : Nat) (g : Goroutine) (w : World), Goes P true (RC ty Wg C) (DP Wg Own Rd 1 Low) Stop k g w → X w → First P Shun g w := by
  intro k
  induction k with
  | zero => exact fun g w h hx => hStop g w (fun d => h _ (RC.at w d)) hx
  | succ k ih =>
    intro g w h hx
    rcases h with h | ⟨hr, hall⟩
    · exact hStop g w (fun d => h _ (RC.at w d)) hx
    · intro n
      cases n with
      | zero => trivial
      | succ n =>
        refine ⟨hr, fun d g' w' es hs => ?_⟩
        have := hall (w.at d) (RC.at w d)
        rw [hs] at this
        obtain ⟨hD, hG⟩ := this
        refine ⟨fun e he x hx' hsx => ?_, ih g' w' hG (hX w w' d hD.1 hx) n⟩
        rcases ((hD.2 e he).1 0 "").2 x hx' with ⟨_, h1⟩ | ⟨_, h1, _⟩
        · exact h1
        · exact absurd (hS _ hsx) (h1 1 (Nat.le_refl _) (Nat.le_refl _))

/-- From a script that adds one and starts one. -/
theorem first_of {Next : Goroutine → World → Prop} (hS : ∀ l, Shun l → Own 1 l) (hLow : Wg < Lw 1) {k : Nat} {g : Goroutine} {w : World} (h : Goes P true (RC ty Wg C) (DP Wg Own Rd 1 (Lw 1)) (AtKdS P ty Wg C n Own Rd Lw val 1 Next) k g w) (hw : WgAt ty Wg w 0 0) : First P Shun g w := by
  have bk : ∀ {es2 : Array Event}, (∀ e ∈ es2, Go.ConcR.Bk Wg e) → ShyEs Shun es2 := fun h => (soft_bk (Shun := Shun) (d := 0) h).2
  have no : ∀ {es2 : Array Event}, (∀ e ∈ es2, (MemAct.ofEvent e).touch? = none) → ShyEs Shun es2 := fun h => (soft_none (Wg := Wg) (Shun := Shun) (d := 0) h).2
  have hX : ∀ w w' d, (∀ b, b < Lw 1 → w'.heap[b]? = (World.at w d).heap[b]?) → WgAt ty Wg w 0 0 → WgAt ty Wg w' 0 0 := fun w w' d hb hx => hx.of_block (hb Wg hLow)
  have s4 : ∀ g w, (∀ d, AtGoS P ty Wg C n Own Rd Lw val 1 Next g (w.at d)) → True → First P Shun g w := by
    intro g w h _ n
    cases n with
    | zero => trivial
    | succ n =>
      refine ⟨(h 0).1, fun d g' w' es hs => ?_⟩
      obtain ⟨_, _, _, h2, _⟩ := h d
      rw [hs] at h2
      cases h2
  have s3 : ∀ g w, (∀ d, AtKeS P ty Wg C n Own Rd Lw val 1 Next g (w.at d)) → True → First P Shun g w := by
    intro g w h _ n
    cases n with
    | zero => trivial
    | succ n =>
      refine ⟨(h 0).1, fun d g' w' es hs => ?_⟩
      obtain ⟨_, g2, h2, m, h3⟩ := h d
      rw [hs] at h2
      simp only [GStep.go.injEq] at h2
      obtain ⟨rfl, rfl, rfl⟩ := h2
      exact ⟨no fun e he => by simp at he; subst he; rfl, first_stage hS (X := fun _ => True) (fun _ _ _ _ _ => trivial) s4 m _ _ h3 trivial n⟩
  have s2 : ∀ g w, (∀ d, AtA1 P ty Wg C n Own Rd Lw val 1 Next g (w.at d)) → WgAt ty Wg w 0 0 → First P Shun g w := by
    intro g w h hx n
    cases n with
    | zero => trivial
    | succ n =>
      refine ⟨(h 0).1, fun d g' w' es hs => ?_⟩
      obtain ⟨g2, h2, m, h3⟩ := (h d).2 0 (by omega) (by simpa using (hx.of_block (w₁ := w.at d) rfl))
      rw [hs] at h2
      simp only [GStep.go.injEq] at h2
      obtain ⟨rfl, rfl, rfl⟩ := h2
      exact ⟨bk bk_rw, first_stage hS (X := fun _ => True) (fun _ _ _ _ _ => trivial) s3 m _ _ h3 trivial n⟩
  have s1 : ∀ g w, (∀ d, AtKdS P ty Wg C n Own Rd Lw val 1 Next g (w.at d)) → WgAt ty Wg w 0 0 → First P Shun g w := by
    intro g w h hx n
    cases n with
    | zero => trivial
    | succ n =>
      refine ⟨(h 0).1, fun d g' w' es hs => ?_⟩
      obtain ⟨_, g2, h2, m, h3⟩ := h d
      rw [hs] at h2
      simp only [GStep.go.injEq] at h2
      obtain ⟨rfl, rfl, rfl⟩ := h2
      exact ⟨bk bk_dis, first_stage hS hX s2 m _ _ h3 (hx.of_block rfl) n⟩
  exact first_stage hS hX s1 k g w h hw

theorem inv_again (hAr : ∀ g w, AnchW g w → g.status = .running) {μ : Nat × Nat} {gs : Array Goroutine} {w : World} {t : Trace} (hI : Inv P ty Wg C n Own Rd Lw val vals AnchW Post μ (crowd gs w none) t) {a' : Goroutine} (ha' : gs[0]? = some a') :
    ∃ μ' : Nat × Nat, μ'.1 = μ.1 ∧ μ'.2 ≤ μ.2 + 1 ∧ Inv P ty Wg C n Own Rd Lw val vals AnchW Post μ' (crowd (gs.setIfInBounds 0 (a'.again w)) w none) t := by
  obtain ⟨j, D, tag, f0, d0, a, st, sm, ha, hcs, hcom, hwg, hmode, hacq, rfl⟩ := inv_open hI
  obtain rfl : a' = a := Option.some.inj (ha'.symm.trans ha)
  have h0 : 0 < gs.size := (Array.getElem?_eq_some_iff.1 ha).1
  have hcom' : Com P ty Wg C n Own Rd Lw val j (gs.setIfInBounds 0 (a'.again w)) w t D d0 :=
    ⟨by simp [hcom.size], fun i hi => by
      obtain ⟨g, hg, hs⟩ := hcom.wk i hi
      exact ⟨g, by rw [Array.getElem?_setIfInBounds_ne (by omega)]; exact hg, hs⟩, hcom.ct, hcom.norel, hcom.deaf0, hcom.deafW, hcom.rel, hcom.has, hcom.pay⟩
  have hget : (gs.setIfInBounds 0 (a'.again w))[0]? = some (a'.again w) := by simp [h0]
  rcases hcs.status hAr with ⟨hs, _⟩ | ⟨_, rfl⟩
  · have e : a'.again w = a' := again_running _ (.inl hs)
    rw [e] at hcom' hget ⊢
    exact ⟨_, rfl, by omega, ⟨_, w, none, j, D, tag, f0, d0, a', st, sm, rfl, hget, hcs, hcom', hwg, hmode, hacq, rfl⟩⟩
  · cases hcs with
    | blk hb =>
      rename_i g0 hstat
      have h3 := hb w (.refl w)
      have e := Go.ConcR.again_blocked (w := w) h3.1 h3.2.1
      rw [e] at hcom' hget ⊢
      exact ⟨(phi n (Vc n D) .w3 + Ssum n D, (0 + 1) + 2 * Fsum n D), rfl, by simp only; omega, ⟨_, w, none, n, D, .w3, 0 + 1, 1, g0, st, sm, rfl, hget, .w3 (Goes.stop hb), hcom', hwg, hmode.retag (.inr ⟨rfl, rfl⟩), by simp, rfl⟩⟩

/-- A step of the starter's, in the crowd. -/
theorem inv_go0 (A : Apart (ShN Wg) Own Rd) (G : Geo Wg C Lw) (hn : n < 2147483648)
    (hAn : ∀ g w, AnchW g w → ∃ m, Goes P true (RC ty Wg C) (DP Wg Own Rd n (Lw n)) (AtW1 P ty Wg C n Own Rd (Lw n) vals AnchW Post) m g w) (hl : vals.length = n) (hv : ∀ i, i < n → vals[i]? = some (val i))
    {μ : Nat × Nat} {gs : Array Goroutine} {w : World} {t : Trace} (hI : Inv P ty Wg C n Own Rd Lw val vals AnchW Post μ (crowd gs w none) t) {a a2 : Goroutine} {w2 : World} {es : Array Event} (ha : gs[0]? = some a) (hrun : a.status = .running) (hgo : stepG P true a w = .go a2 w2 es) :
    ∃ μ', Less μ' μ ∧ Inv P ty Wg C n Own Rd Lw val vals AnchW Post μ' (crowd ((gs.map (woken P a a2 w2)).setIfInBounds 0 a2) w2 none) (t ++ MemOp.ofEvents 0 a.frame.fn a.frame.place es) := by
  obtain ⟨j, D, tag, f0, d0, a', st, sm, ha', hcs, hcom, hwg, hmode, hacq, rfl⟩ := inv_open hI
  obtain rfl : a' = a := Option.some.inj (ha'.symm.trans ha)
  have hr := runT_crowd_go (P := P) (sl := none) (i := 0) ha (show stepG P (0 == 0) a' w = _ from hgo)
  rcases stepCaller (sl := none) A G hn hAn hl hv ha hcs hcom hwg hmode hacq hrun with ⟨o, w₁, ops, h1, _⟩ | ⟨m₁, ops, μ', h1, h2, h3⟩
  · rw [hr] at h1; cases h1
  · rw [hr] at h1
    simp only [Prod.mk.injEq, Stepped.next.injEq] at h1
    obtain ⟨rfl, rfl⟩ := h1
    exact ⟨μ', h2, h3⟩
theorem inv_spawn0 (A : Apart (ShN Wg) Own Rd) (G : Geo Wg C Lw) (hn : n < 2147483648)
    (hAn : ∀ g w, AnchW g w → ∃ m, Goes P true (RC ty Wg C) (DP Wg Own Rd n (Lw n)) (AtW1 P ty Wg C n Own Rd (Lw n) vals AnchW Post) m g w) (hl : vals.length = n) (hv : ∀ i, i < n → vals[i]? = some (val i))
    {μ : Nat × Nat} {gs : Array Goroutine} {w : World} {t : Trace} (hI : Inv P ty Wg C n Own Rd Lw val vals AnchW Post μ (crowd gs w none) t) {a a2 child : Goroutine} (ha : gs[0]? = some a) (hrun : a.status = .running) (hgo : stepG P true a w = .spawn a2 child w #[]) :
    ∃ μ', Less μ' μ ∧ Inv P ty Wg C n Own Rd Lw val vals AnchW Post μ' (crowd ((gs.setIfInBounds 0 a2).push child) w none) (t ++ #[{ g := 0, fn := a.frame.fn, pos := a.frame.place, act := .go gs.size }, { g := gs.size, fn := child.frame.fn, pos := a.frame.place, act := .start }]) := by
  obtain ⟨j, D, tag, f0, d0, a', st, sm, ha', hcs, hcom, hwg, hmode, hacq, rfl⟩ := inv_open hI
  obtain rfl : a' = a := Option.some.inj (ha'.symm.trans ha)
  have hr := runT_crowd_spawn (P := P) (sl := none) (i := 0) ha (show stepG P (0 == 0) a' w = _ from hgo)
  rcases stepCaller (sl := none) A G hn hAn hl hv ha hcs hcom hwg hmode hacq hrun with ⟨o, w₁, ops, h1, _⟩ | ⟨m₁, ops, μ', h1, h2, h3⟩
  · rw [hr] at h1; cases h1
  · rw [hr] at h1
    simp only [Prod.mk.injEq, Stepped.next.injEq] at h1
    obtain ⟨rfl, rfl⟩ := h1
    have e : ((MemOp.ofEvents 0 a'.frame.fn a'.frame.place #[]).push { g := 0, fn := a'.frame.fn, pos := a'.frame.place, act := .go gs.size }).push { g := gs.size, fn := child.frame.fn, pos := a'.frame.place, act := .start } =
        #[{ g := 0, fn := a'.frame.fn, pos := a'.frame.place, act := .go gs.size }, { g := gs.size, fn := child.frame.fn, pos := a'.frame.place, act := .start }] := by simp [ofEvents_eq]
    rw [e] at h3
    exact ⟨μ', h2, h3⟩
/-- A step of a worker's, in the crowd. -/
theorem inv_goW (A : Apart (ShN Wg) Own Rd) (G : Geo Wg C Lw) (hAr : ∀ g w, AnchW g w → g.status = .running) (hn : n < 2147483648)
    {μ : Nat × Nat} {gs : Array Goroutine} {w : World} {t : Trace} (hI : Inv P ty Wg C n Own Rd Lw val vals AnchW Post μ (crowd gs w none) t) {i : Nat} {g g' : Goroutine} {w' : World} {es : Array Event} (hg : gs[i + 1]? = some g) (hrun : g.status = .running) (hgo : stepG P false g w = .go g' w' es) :
    ∃ μ', Less μ' μ ∧ Inv P ty Wg C n Own Rd Lw val vals AnchW Post μ' (crowd ((gs.map (woken P g g' w')).setIfInBounds (i + 1) g') w' none) (t ++ MemOp.ofEvents (i + 1) g.frame.fn g.frame.place es) := by
  obtain ⟨j, D, tag, f0, d0, a, st, sm, ha, hcs, hcom, hwg, hmode, hacq, rfl⟩ := inv_open hI
  have hi : i < j := by have := (Array.getElem?_eq_some_iff.1 hg).1; rw [hcom.size] at this; omega
  obtain ⟨m₁, ops, μ', h1, h2, h3⟩ := stepWorker (sl := none) A G hAr hn ha hcs hcom hwg hmode hacq hi hg hrun
  have hr := runT_crowd_go (P := P) (sl := none) (i := i + 1) hg (by simpa using hgo)
  rw [hr] at h1
  simp only [Prod.mk.injEq, Stepped.next.injEq] at h1
  obtain ⟨rfl, rfl⟩ := h1
  exact ⟨μ', h2, h3⟩

theorem crew_of {OwnS : Nat → Loc → Prop} (hS : ∀ l, Shun l → OwnS 1 l) (hOw : ∀ k l, Own k l → ¬ Shun l) (hRd : ∀ k l, Rd k l → ¬ Shun l) (A : Apart (ShN Wg) Own Rd) (AS : Apart (ShN Wg) OwnS Rd) (G : Geo Wg C Lw) (hn : n < 2147483648) (hn1 : 1 ≤ n) (hAr : ∀ g w, AnchW g w → g.status = .running)
    (hAn : ∀ g w, AnchW g w → ∃ m, Goes P true (RC ty Wg C) (DP Wg Own Rd n (Lw n)) (AtW1 P ty Wg C n Own Rd (Lw n) vals AnchW Post) m g w)
    (hAnS : ∀ g w, AnchW g w → ∃ m, Goes P true (RC ty Wg C) (DP Wg OwnS Rd n (Lw n)) (AtW1 P ty Wg C n OwnS Rd (Lw n) vals AnchW Post) m g w)
    (hl : vals.length = n) (hv : ∀ i, i < n → vals[i]? = some (val i)) : Crew P Shun (ShN Wg) Post (CrewI P ty Wg C n Own OwnS Rd Lw val vals AnchW Post Shun) where
  at_ := by
    rintro μ gs w t ⟨hI, ⟨μ2, hI2⟩, hE, hF⟩ d
    obtain ⟨j, D, tag, f0, d0, a, st, sm, ha, hcs, hcom, hwg, hmode, hacq, rfl⟩ := inv_open hI
    obtain ⟨j2, D2, tag2, f2, d2, a2, st2, sm2, ha2, hcs2, hcom2, hwg2, hmode2, hacq2, rfl⟩ := inv_open hI2
    exact ⟨⟨gs, w.at d, none, j, D, tag, f0, d0, a, st, sm, rfl, ha, hcs.rely (RC.at w d), hcom.at d, hwg, hmode, hacq, rfl⟩, ⟨_, gs, w.at d, none, j2, D2, tag2, f2, d2, a2, st2, sm2, rfl, ha2, hcs2.rely (RC.at w d), hcom2.at d, hwg2, hmode2, hacq2, rfl⟩, hE, fun h1 b hb => (hF h1 b hb).at d⟩
  awake := by
    rintro μ gs w t ⟨hI, _, hE, _⟩
    obtain ⟨j, D, tag, f0, d0, a, st, sm, ha, hcs, hcom, hwg, hmode, hacq, rfl⟩ := inv_open hI
    exact ⟨all_awake hAr ha hcs hcom, someone_runs hAr ha hcs hcom hmode⟩
  wk := by
    rintro μ gs w t ⟨hI, _, hE, _⟩ i g hg b b' w'
    obtain ⟨j, D, tag, f0, d0, a, st, sm, ha, hcs, hcom, hwg, hmode, hacq, rfl⟩ := inv_open hI
    have hi : i < j := by have := (Array.getElem?_eq_some_iff.1 hg).1; rw [hcom.size] at this; omega
    obtain ⟨g', hg', hs⟩ := hcom.wk i hi
    rw [hg] at hg'
    cases hg'
    exact hs.woken b b' w'
  again := by
    rintro μ gs w t ⟨hI, ⟨μ2, hI2⟩, ⟨j0, hsz, hE⟩, hF⟩ a' ha'
    obtain ⟨μ', e1, e2, hI'⟩ := inv_again hAr hI ha'
    obtain ⟨μ2', _, _, hI2'⟩ := inv_again hAr hI2 ha'
    have h0 : 0 < gs.size := (Array.getElem?_eq_some_iff.1 ha').1
    refine ⟨μ', e1, e2, hI', ⟨μ2', hI2'⟩, ⟨j0, by simp [hsz], hE⟩, fun h1 b hb => ?_⟩
    have hf := hF (by simpa using h1) a' ha'
    have e : a'.again w = a' := again_running _ (.inl hf.running)
    have hb2 : b = a' := by
      rw [e] at hb
      simp [h0] at hb
      exact hb.symm
    rw [hb2]
    exact hf
  starter := by
    rintro μ gs w t ⟨hI, ⟨μ2, hI2⟩, ⟨j0, hsz, hE⟩, hF⟩ a' ha' hrun
    have hI0 := hI
    have hI20 := hI2
    obtain ⟨j, D, tag, f0, d0, a, st, sm, ha, hcs, hcom, hwg, hmode, hacq, rfl⟩ := inv_open hI
    obtain ⟨j2, D2, tag2, f2, d2, a2, st2, sm2, ha2, hcs2, hcom2, hwg2, hmode2, hacq2, rfl⟩ := inv_open hI2
    obtain rfl : a' = a := Option.some.inj (ha'.symm.trans ha)
    obtain rfl : a' = a2 := Option.some.inj (ha'.symm.trans ha2)
    obtain rfl : j0 = j := by have := hcom.size; omega
    obtain rfl : j0 = j2 := by have := hcom2.size; omega
    have hown : ∀ (fn : FuncId) (pos : String) (es : Array Event), ∀ op ∈ MemOp.ofEvents 0 fn pos es, op.g = 0 := fun fn pos es op hop => by
      obtain ⟨e, _, rfl⟩ := Conc.mem_ofEvents hop
      rfl
    have hno : ∀ (fn : FuncId) (pos : String) (es : Array Event), ShyEs Shun es → ∀ op ∈ MemOp.ofEvents 0 fn pos es, ∀ x, op.act.touch? = some x → Shun x.loc → x.kind ≠ .plain := fun fn pos es h op hop x hx hs => by
      obtain ⟨e, he, rfl⟩ := Conc.mem_ofEvents hop
      exact h e he x hx hs
    rcases starter_goes hn hl hv hcs hcom hwg hmode hAn hrun with ⟨b2, w2, es, hgo⟩ | ⟨hd0, b2, child, hgo⟩ | ⟨hd0, hj, hq, v, es, hgo, hpost, hev⟩
    · have hshy : ShyEs Shun es := by
        rcases Nat.eq_zero_or_pos j0 with rfl | hpos
        · exact ((hF (by omega) a' ha').step hgo).1
        · exact starter_shy hS hn hl hv hcs2 hcom2 hwg2 hmode2 hAnS hpos hrun hgo
      obtain ⟨μ', l1, i1⟩ := inv_go0 A G hn hAn hl hv hI0 ha' hrun hgo
      obtain ⟨μ2', _, i2⟩ := inv_go0 AS G hn hAnS hl hv hI20 ha' hrun hgo
      refine .inl ⟨b2, w2, es, hgo, fun hdead => inv_not_dead A G hn hAr hAn hl hv μ' _ _ i1 _ _ none b2 rfl (get0_put ha') hdead, μ', l1, i1, ⟨μ2', i2⟩, ⟨j0, by simp [hsz], hE.own0 (hown _ _ _) (hno _ _ _ hshy)⟩, fun h1 b hb => ?_⟩
      rw [get0_put ha'] at hb
      cases hb
      exact ((hF (by simpa using h1) a' ha').step hgo).2
    · obtain ⟨μ', l1, i1⟩ := inv_spawn0 A G hn hAn hl hv hI0 ha' hrun hgo
      obtain ⟨μ2', _, i2⟩ := inv_spawn0 AS G hn hAnS hl hv hI20 ha' hrun hgo
      refine .inr (.inl ⟨b2, child, hgo, μ', l1, i1, ⟨μ2', i2⟩, ⟨j0 + 1, by simp [hsz], ?_⟩, fun h1 => by rw [Array.size_push, Array.size_setIfInBounds] at h1; omega⟩)
      exact hE.fork (by rw [hcom.deaf0, hd0]) (Deaf_absent fun i op hi e => by have := hcom.ct.gs i op hi; omega) ⟨rfl, by rw [hsz]⟩ ⟨by rw [hsz], rfl⟩
    · have hr := runT_many_ended (P := P) (sl := none) (i := 0) ha (show stepG P (0 == 0) a' w = _ from hgo)
      have hshy : ShyEs Shun es := by
        rcases starter_goes hn hl hv hcs2 hcom2 hwg2 hmode2 hAnS hrun with ⟨b2, w2, es2, hgo2⟩ | ⟨_, b2, child, hgo2⟩ | ⟨_, hj2, _, v2, es2, hgo2, _, hev2⟩
        · rw [hgo] at hgo2; cases hgo2
        · rw [hgo] at hgo2; cases hgo2
        · rw [hgo] at hgo2
          simp only [GStep.ended.injEq] at hgo2
          obtain ⟨_, _, rfl⟩ := hgo2
          intro e he x hx hs
          rcases ((hev2 e he).1 0 "").2 x hx with ⟨_, h1⟩ | ⟨_, h1, _⟩
          · exact h1
          · exact absurd (hS _ hs) (h1 1 (Nat.le_refl _) hn1)
      rcases stepCaller (sl := none) A G hn hAn hl hv ha hcs hcom hwg hmode hacq hrun with ⟨o, w₁, ops, h1, h2⟩ | ⟨m₁, ops, μ', h1, h2, h3⟩
      · rw [hr] at h1
        simp only [Prod.mk.injEq, Stepped.ended.injEq] at h1
        obtain ⟨⟨rfl, rfl⟩, rfl⟩ := h1
        obtain ⟨v', hv', _, clean, over, _, _⟩ := h2 w none
        refine .inr (.inr ⟨v, w, es, hgo, hpost, settled_of (w := w) (t := t) (D := D) (hE.own0 (hown _ _ _) (hno _ _ _ hshy)) hsz clean over ?_ (fun i g hg => ?_) (fun i op hop => ?_)⟩)
        · rw [Deaf_own, hcom.deaf0, hd0]
          exact Go.ConcN.deafBehind_idle (fun e he => ⟨(hev e he).2.1, (hev e he).2.2.1⟩) 0
        · have hi : i < j0 := by have := (Array.getElem?_eq_some_iff.1 hg).1; omega
          obtain ⟨g', hg', hs⟩ := hcom.wk i hi
          rw [hg] at hg'
          cases hg'
          refine ⟨(D i).fuel, ?_⟩
          rw [Deaf_other t (g := i + 1) (g' := 0) (by omega) _ (hown _ _ _), hcom.deafW i hi]
          exact hs.quits (hq i hi)
        · rcases getElem?_append_cases hop with ⟨_, hop'⟩ | ⟨_, hopu⟩
          · exact hcom.ct.gs i op hop'
          · rw [hown _ _ _ op hopu]; exact Nat.zero_le _
      · rw [hr] at h1; cases h1
  worker := by
    rintro μ gs w t ⟨hI, ⟨μ2, hI2⟩, ⟨j0, hsz, hE⟩, hF⟩ i g hg hrun
    have hI0 := hI
    obtain ⟨j, D, tag, f0, d0, a, st, sm, ha, hcs, hcom, hwg, hmode, hacq, rfl⟩ := inv_open hI
    obtain rfl : j0 = j := by have := hcom.size; omega
    have hi : i < j0 := by have := (Array.getElem?_eq_some_iff.1 hg).1; omega
    obtain ⟨g', w', es, hgo, hsoft⟩ := worker_soft (Shun := Shun) hOw hRd hcs hn hcom hwg hmode hi hg hrun
    obtain ⟨μ', l1, i1⟩ := inv_goW A G hAr hn hI0 hg hrun hgo
    obtain ⟨μ2', _, i2⟩ := inv_goW AS G hAr hn hI2 hg hrun hgo
    exact ⟨g', w', es, hgo, μ', l1, i1, ⟨μ2', i2⟩, ⟨j0, by simp [hsz], hE.worker (by omega) (by omega) _ _ hsoft⟩, fun h1 => by simp at h1; omega⟩
end
end Go.Veiled

namespace Go.Veiled
set_option linter.unusedSimpArgs false
set_option linter.unusedSectionVars false
set_option linter.unusedVariables false
open Go.Conc
open Go.Extern Go.Extern.FmtCalls

/-- Carried out, it ends the run; it stands for a call that is under way. -/
def stuckOp (d : Tmp) : Oper := { (default : Oper) with dst := some d, op := .pick (.const (.int .i64 0)) (.const (.int .i64 0)) (.const (.int .i64 0)), guard := none }

def sill (P : Program) : Frame := { fn := P.funcs.size, tmps := #[undef], todo := [.inRegion #[stuckOp 0] [0]], defers := [], mode := .run, kind := .normal, roundOf := none }
def lobby (P : Program) : Frame := { fn := P.funcs.size, tmps := #[.string .empty, undef], todo := [.inRegion #[stuckOp 1] [0]], defers := [], mode := .run, kind := .normal, roundOf := none }
def saved0 : Array Value := #[.int .i64 0, .int .i64 0, undef, .string .empty, .int .i64 0]
def door (P : Program) : Frame := { fn := P.funcs.size, tmps := #[undef], todo := [.call { target := .nil, args := #[] } false returnedRow saved0], defers := [], mode := .run, kind := .normal, roundOf := none }

section
variable {P : Program}

theorem no_fn (P : Program) : P.funcs[P.funcs.size]? = none := by simp

theorem run_empty (fr : Frame) (ops : Array Oper) (k : List Item) (hm : fr.mode = .run) (ht : fr.todo = .inRegion ops [] :: k) (m : List Frame) (w : World) : stepG P true (G fr m) w = .go (G { fr with todo := k } m) w #[] := by
  obtain ⟨a, b, c, d, e, f, g⟩ := fr
  simp only at hm ht
  subst hm ht
  simp [G, stepG, stepG.exec]
theorem run_leave (fr : Frame) (hm : fr.mode = .run) (hr : fr.roundOf = none) (ht : fr.todo = []) (m : List Frame) (w : World) : stepG P true (G fr m) w = .go (G { fr with mode := .returning } m) w #[] := by
  obtain ⟨a, b, c, d, e, f, g⟩ := fr
  simp only at hm ht hr
  subst hm ht hr
  simp [G, stepG, stepG.exec]
theorem run_end (fr : Frame) (hm : fr.mode = .returning) (hd : fr.defers = []) (hk : fr.kind = .normal) (hf : fr.fn = P.funcs.size) (hi : P.inits.idxOf? P.funcs.size = none) (w : World) : stepG P true (G fr []) w = .ended (.done (fr.tmps.getD 0 undef)) w #[] := by
  obtain ⟨a, b, c, d, e, f, g⟩ := fr
  simp only at hm hd hk hf
  subst hm hd hk hf
  simp [G, stepG, unwind, doReturn, hi]
theorem run_pop (fr c : Frame) (m : List Frame) (hm : fr.mode = .returning) (hd : fr.defers = []) (hk : fr.kind = .normal) (hf : fr.fn = P.funcs.size) (w : World) : stepG P true (G fr (c :: m)) w = .go (G (c.finish (fr.tmps.getD 0 undef)) m) w #[] := by
  obtain ⟨a, b, c', d, e, f, g⟩ := fr
  simp only at hm hd hk hf
  subst hm hd hk hf
  simp [G, stepG, unwind, doReturn]
theorem run_stuck (fr : Frame) (d : Tmp) (k : List Item) (hm : fr.mode = .run) (hr : fr.roundOf = none) (hk : fr.kind = .normal) (ht : fr.todo = .inRegion #[stuckOp d] [0] :: k) (m : List Frame) (w : World) : ∃ o w' es, stepG P true (G fr m) w = .ended o w' es ∧ ∀ v, o ≠ .done v := by
  obtain ⟨a, b, c, e, f, g, h⟩ := fr
  simp only at hm ht hr hk
  subst hm ht hr hk
  have hw : Region.wanted (stuckOp d) (yielded #[stuckOp d] b) = true := rfl
  obtain ⟨msg, hs⟩ : ∃ msg, (execOp (Frame.eval { fn := a, tmps := b, todo := .inRegion #[stuckOp d] [0] :: k, defers := e, mode := .run, kind := .normal, roundOf := none }) (stuckOp d)).runT P w #[] = (.halt (.stuck msg) w, #[]) := ⟨_, rfl⟩
  have e1 : stepG.apply P true { fn := a, tmps := b, todo := .inRegion #[stuckOp d] [0] :: k, defers := e, mode := .run, kind := .normal, roundOf := none } m none (execOp (Frame.eval { fn := a, tmps := b, todo := .inRegion #[stuckOp d] [0] :: k, defers := e, mode := .run, kind := .normal, roundOf := none }) (stuckOp d)) w = GStep.after (seen P a #[]) (.ended (.stuck msg (Frame.pos P { fn := a, tmps := b, todo := .inRegion #[stuckOp d] [0] :: k, defers := e, mode := .run, kind := .normal, roundOf := none })) w) := by
    unfold stepG.apply
    simp only [hs, if_true]
    rfl
  have h1 : ∃ pos es, stepG P true (G { fn := a, tmps := b, todo := .inRegion #[stuckOp d] [0] :: k, defers := e, mode := .run, kind := .normal, roundOf := none } m) w = .ended (.stuck msg pos) w es := by
    simp only [G, stepG, stepG.exec, List.getElem?_toArray, List.getElem?_cons_zero, Option.map_some, hw, Option.getD_some, if_true, stepG.oper, Frame.oper?]
    exact ⟨_, _, e1⟩
  obtain ⟨pos, es, h⟩ := h1
  exact ⟨_, _, _, h, by simp⟩

theorem sill_ok (hi : P.inits.idxOf? P.funcs.size = none) : Sill P (sill P) [] where
  fin := fun u w => ⟨2, _, _, run_empty _ _ _ rfl rfl _ _, rfl, _, _, run_leave _ rfl rfl rfl _ _, rfl, _, run_end _ rfl rfl rfl rfl hi _, rfl, rfl⟩

/-- The door, a panic in it. -/
def shut (P : Program) (ch : List PanicEntry) : Frame := { fn := P.funcs.size, tmps := #[undef], todo := [.call { target := .nil, args := #[] } false returnedRow saved0], defers := [], mode := .panicking ch, kind := .normal, roundOf := none }
theorem raise_door (ch : List PanicEntry) : (door P).raise ch = shut P ch := rfl

theorem starts : returnedRow.startsWith "fmt's door" = true := by decide +kernel

theorem shut_end (ch : List PanicEntry) (w : World) : ∃ o w' es, stepG P true (G (shut P ch) []) w = .ended o w' es ∧ ∀ v, o ≠ .done v := by
  have hc : Frame.catches P (shut P ch) = true := by
    unfold Frame.catches
    simp only [shut, no_fn]
    exact starts
  have hd : (shut P ch).defers = [] := rfl
  have hmo : (shut P ch).mode = .panicking ch := rfl
  have h : ∃ u pos, unwind P true (shut P ch) [] none w = .ended (.unsupported u pos) w := by
    unfold unwind
    simp only [hd, hmo, hc, if_true]
    exact ⟨_, _, rfl⟩
  obtain ⟨u, pos, h⟩ := h
  exact ⟨_, _, _, (show stepG P true (G (shut P ch) []) w = unwind P true (shut P ch) [] none w from rfl).trans h, by simp⟩

theorem nextReturned : Extern.next returnedRow = some (FmtCalls.returned #[] #[]) := by kernel_rfl

theorem door_sem (P : Program) (w : World) : ∃ s d, (FmtCalls.returned #[] #[] (saved0.push (.string .empty))).runT P w #[] = (.ok (.value s) (w.at d), #[]) := ⟨_, _, rfl⟩

theorem door_in (w : World) : ∃ s d, stepG P true (G ((door P).finish (.string .empty)) []) w = .go (G { fn := P.funcs.size, tmps := #[s], todo := [], defers := [], mode := .run, kind := .normal, roundOf := none } []) (w.at d) #[] := by
  obtain ⟨s, d, hr⟩ := door_sem P w
  refine ⟨s, d, ?_⟩
  have e : (door P).finish (.string .empty) = { fn := P.funcs.size, tmps := #[undef], todo := [.extern returnedRow (saved0.push (.string .empty))], defers := [], mode := .run, kind := .normal, roundOf := none } := rfl
  rw [e]
  simp only [G, stepG, stepG.exec, nextReturned, Option.elim_some]
  unfold stepG.apply
  simp only [hr, if_true]
  rfl

theorem lobby_ok (hi : P.inits.idxOf? P.funcs.size = none) : Door P (lobby P) [door P] where
  mode := rfl
  raise := fun ch w => by
    refine ⟨1, G (shut P ch) [], w, #[], ?_, rfl, shut_end ch w⟩
    have e : (lobby P).raise ch = { fn := P.funcs.size, tmps := #[.string .empty, undef], todo := [.inRegion #[stuckOp 1] [0]], defers := [], mode := .panicking ch, kind := .normal, roundOf := none } := rfl
    rw [e]
    simp [G, stepG, unwind, Frame.catches, raise_door]
  back := fun w => ⟨0, run_stuck _ 1 [] rfl rfl rfl rfl _ _⟩
  fin := fun u w => by
    obtain ⟨s, d, h⟩ := door_in (P := P) w
    exact ⟨5, _, _, run_empty _ _ _ rfl rfl _ _, rfl, _, _, run_leave _ rfl rfl rfl _ _, rfl, _, _, run_pop _ _ _ rfl rfl rfl rfl _, rfl, _, _, h, rfl, _, _, run_leave _ rfl rfl rfl _ _, rfl, _, run_end _ rfl rfl rfl rfl hi _, trivial⟩
end
end Go.Veiled

namespace Go.Veiled
set_option linter.unusedSimpArgs false
set_option linter.unusedSectionVars false
set_option linter.unusedVariables false
open Go.Conc Go.ConcN
open Go.ConcR (KK wgBlock WgAt stA smA rd wr mk Payload Aside2 DC0)
variable [Payload]

section
variable {P : Program} {ty : TypeId} {Wg C n : Nat} {Own Rd : Nat → Loc → Prop} {Lw : Nat → Nat} {val : Nat → Value} {vals : List Value} {AnchW : Goroutine → World → Prop} {Post : Value → World → Prop} {Shun : Loc → Prop}

theorem inv_start {a : Goroutine} {w : World} (hsp : Spawns P ty Wg C n Own Rd Lw val (Fin P ty Wg C n Own Rd Lw AnchW) n a w) (hwg : WgAt ty Wg w 0 0) (hpay : PayAt C n w) :
    ∃ μ, Inv P ty Wg C n Own Rd Lw val vals AnchW Post μ (crowd #[a] w none) #[] := by
  have hcom : Com P ty Wg C n Own Rd Lw val 0 #[a] w #[] (fun _ => ⟨0, 0, 0⟩) 0 := by
    refine ⟨rfl, fun i hi => by omega, CT.lone (fun op h => by simp at h) (fun op h => by simp at h), fun i hi => by simp [Trace.act?] at hi, rfl, fun i hi => by omega, fun i hi => by omega, fun i hi => by omega, hpay⟩
  have hmode : ∀ tag, isOpen tag → pend tag = 0 → (∀ vs, tag ≠ .w2 vs) → ConcN.Mode 0 (fun _ => (⟨0, 0, 0⟩ : WD)) tag 0 0 := fun tag h1 h2 h3 => by
    have := ConcN.Mode.opn (j := 0) (D := fun _ => (⟨0, 0, 0⟩ : WD)) h1 (fun i hi => by omega) (fun vs e => absurd e (h3 vs))
    simpa [Vc, sumTo, h2] using this
  cases n with
  | zero =>
    obtain ⟨m, hk⟩ := hsp
    exact ⟨_, #[a], w, none, 0, _, .kd, m, 0, a, 0, 0, rfl, rfl, .kd hk, hcom, hwg, hmode .kd trivial rfl (by simp), by simp, rfl⟩
  | succ r =>
    obtain ⟨m, hk⟩ := hsp
    have hc := CSit.skd (vals := vals) (Post := Post) (Nat.lt_succ_self r) hk
    rw [Nat.sub_self] at hc
    exact ⟨_, #[a], w, none, 0, _, .sp r 5, m, 0, a, 0, 0, rfl, rfl, hc, hcom, hwg, hmode (.sp r 5) trivial rfl (by simp), by simp, rfl⟩
theorem crew_start {OwnS : Nat → Loc → Prop} {a : Goroutine} {w : World} (hsp : Spawns P ty Wg C n Own Rd Lw val (Fin P ty Wg C n Own Rd Lw AnchW) n a w) (hspS : Spawns P ty Wg C n OwnS Rd Lw val (Fin P ty Wg C n OwnS Rd Lw AnchW) n a w) (hf : First P Shun a w) (hwg : WgAt ty Wg w 0 0) (hpay : PayAt C n w) :
    ∃ μ, CrewI P ty Wg C n Own OwnS Rd Lw val vals AnchW Post Shun μ #[a] w #[] := by
  obtain ⟨μ, h1⟩ := inv_start (vals := vals) (Post := Post) hsp hwg hpay
  refine ⟨μ, h1, inv_start hspS hwg hpay, ⟨0, rfl, Extra.nil⟩, fun _ b hb => ?_⟩
  simp at hb
  subst hb
  exact hf
end

section
variable {P : Program} {Shun : Loc → Prop} {Post : Value → World → Prop} {Lf : List FuncId} {K : (Loc → Prop) → Prop}

/-- What the starter comes to: two crews that differ in the frames below alone. -/
def Ready (P : Program) (Lf : List FuncId) (Shun : Loc → Prop) (K : (Loc → Prop) → Prop) (Post : Value → World → Prop) (cs : List Frame) (a : Goroutine) (w : World) : Prop :=
  ∃ (fr : Frame) (k : List Frame), a = G fr (k ++ cs) ∧ MildF P Lf fr ∧ (∀ x ∈ k, MildF P Lf x) ∧
    ∃ (Shun' : Loc → Prop) (Post1 : Value → World → Prop) (I1 I2 : Nat × Nat → Array Goroutine → World → Trace → Prop) (μ1 μ2 : Nat × Nat), K Shun' ∧ Crew P Shun Shun' Post1 I1 ∧ Crew P Shun Shun' Post I2 ∧
      I1 μ1 #[G fr (k ++ lobby P :: [door P])] w #[] ∧ I2 μ2 #[G fr (k ++ sill P :: [])] w #[]

/-- ████ A PHASE BESIDE OTHERS THAT ONLY LEAVE. ████ -/
theorem phase_beside (hM : MildP P Lf) (hi : P.inits.idxOf? P.funcs.size = none) {fr c : Frame} {l : List Frame} {gs : Array Goroutine} {w : World} (sl : Option (Nat × Nat)) {t : Trace} {q : Nat → Nat} {B : Nat} (h0 : gs[0]? = some (G fr (c :: l))) (hL : Leavers P t gs q) (hP : Past Shun B t)
    {D : World → World → Array Event → Prop} (hD : ∀ w w' es, D w w' es → ∀ e ∈ es, Conc.EvL Shun B e) {n0 : Nat}
    (hG : Goes P true AtRel D (Ready P Lf Shun K Post (c :: l)) n0 (G fr (c :: l)) w) :
    ∃ (N : Nat) (gs' : Array Goroutine) (w' : World) (sl' : Option (Nat × Nat)) (t' : Trace) (q' : Nat → Nat) (B' : Nat) (u : Value) (Shun' : Loc → Prop),
      K Shun' ∧ runNT P N (crowd gs w sl) t = (.next (crowd gs' w' sl'), t') ∧ gs'[0]? = some (G (c.finish u) l) ∧ Leavers P t' gs' q' ∧ Past (fun x => Shun x ∨ Shun' x) B' t' ∧ Post u w' := by
  obtain ⟨N1, gs1, a1, w1, sl1, t1, q1, hr, hsz, hg0, ⟨fr1, k, rfl, hf, hk, Shun', Post1, I1, I2, μ1, μ2, hK, C1, C2, i1, i2⟩, hL1, hP1⟩ := walk_beside hD _ n0 gs _ w sl t q (Nat.le_refl _) h0 hL hP hG
  have hpos : 0 < gs1.size := (Array.getElem?_eq_some_iff.1 hg0).1
  have hsL : gs1.size = (gs1.size - 1) + 1 := by omega
  obtain ⟨N2, gs2, w2, sl2, t2, q2, B2, u, h1, h2, h3, h4, h5⟩ := phase_run (L := gs1.size - 1) hM C1 C2 (lobby_ok hi) (sill_ok hi) hP1 _ μ1 μ2 #[G fr1 (k ++ lobby P :: [door P])] #[G fr1 (k ++ sill P :: [])] gs1 w1 sl1 #[] t1 q1 fr1 k .running rfl
    ⟨i1, i2, rfl, rfl, hg0, rfl, by simpa using hsL, fun i => by simp, fun i => by
      rw [Array.getElem?_eq_none (by omega)]
      simp, fun i g hi0 _ hg => hL1.old i g hi0 hg, Within.init hP1 hL1 hsL, hf, hk⟩
  refine ⟨N1 + N2, gs2, w2, sl2, t2, q2, B2, u, Shun', hK, ?_, h2, h3, h4, h5⟩
  rw [runNT_add, hr]
  exact h1

theorem EvL_weaken {Shun1 Shun2 : Loc → Prop} {B : Nat} {e : Event} (h : ∀ l, Shun2 l → Shun1 l) (he : Conc.EvL Shun1 B e) : Conc.EvL Shun2 B e := ⟨fun x hx hs => he.1 x hx (h _ hs), he.2⟩

/-- The phase of a special function, as the walk beside the twin wants it: what is known of the twin's call must fix the value and, but for what is blind, the memory. -/
theorem phase_held {Lo : Nat → Option Obj} {T : Tables} {F2 : Array Func} (hM : MildP (Program.mk T F2) Lf) (hi : (Program.mk T F2).inits.idxOf? (Program.mk T F2).funcs.size = none) {fr c : Frame} {l : List Frame} {v : World} {gs : Array Goroutine} {w : World} (sl : Option (Nat × Nat)) {t : Trace} {q : Nat → Nat} {B : Nat} {Spec : Value → World → Prop}
    (H : Held Lo T F2 fr (c :: l) v gs w t q Shun B) {D : World → World → Array Event → Prop} (hD : ∀ w w' es, D w w' es → ∀ e ∈ es, Conc.EvL Shun B e) {n0 : Nat}
    (hK : ∀ S, K S → ∀ val v2, Spec val v2 → ∀ x, S x → ∃ a, x = .cell a ∧ Blind v2 a.block) (hbl : ∀ val v2, Spec val v2 → ∀ r, Blind v r → Blind v2 r)
    (hPost : ∀ u w', Post u w' → ∀ val v2, Spec val v2 → u = val ∧ Veil Lo (v2.retape w'.tape w'.drawn) w')
    (hG : Goes (Program.mk T F2) true AtRel D (Ready (Program.mk T F2) Lf Shun K Post (c :: l)) n0 (G fr (c :: l)) w) :
    ∃ (N : Nat) (gs' : Array Goroutine) (w' : World) (sl' : Option (Nat × Nat)) (t' : Trace) (q' : Nat → Nat) (Shun' : Loc → Prop) (B' : Nat),
      runNT (Program.mk T F2) N (crowd gs w sl) t = (.next (crowd gs' w' sl'), t') ∧ ∀ val v2, Spec val v2 → Held Lo T F2 (c.finish val) l v2 gs' w' t' q' Shun' B' := by
  obtain ⟨N, gs2, w2, sl2, t2, q2, B2, u, S, hS, h1, h2, h3, h4, h5⟩ := phase_beside hM hi sl H.g0 H.leavers H.past hD hG
  refine ⟨N, gs2, w2, sl2, t2, q2, fun x => Shun x ∨ S x, B2, h1, fun val v2 hs => ?_⟩
  obtain ⟨rfl, hv⟩ := hPost u w2 h5 val v2 hs
  refine ⟨h2, hv, h3, h4, fun x hx => ?_⟩
  rcases hx with hx | hx
  · obtain ⟨a, e, hb⟩ := H.shun x hx
    exact ⟨a, e, hbl u v2 hs _ hb⟩
  · exact hK S hS u v2 hs x hx
end
end Go.Veiled

namespace Go.Veiled
set_option linter.unusedSimpArgs false
set_option linter.unusedSectionVars false
set_option linter.unusedVariables false
open Go.Conc
open Go.ConcN (sumTo)

section
variable {T : Tables} {F1 F2 : Array Func} {special : FuncId → Prop} {R : Value → World → Prop} {Lo : Nat → Option Obj}

theorem past_nil : Past (fun _ => False) 0 (#[] : Trace) where
  clean := fun said => by
    rintro ⟨i, j, _, ⟨a, b, ha, _⟩, _⟩
    simp [Trace.act?] at ha
  known := fun i a ha _ => by simp [touchAt, Trace.act?] at ha
  over := fun i g hg => by simp [Trace.g?] at hg
  hears := rfl
  seen := fun op h => by simp at h

theorem whole_run (hT : Twin T F1 F2 special) (hT1 : Twin T F1 F1 (fun _ => False)) (hPh : PhaseOK T F1 F2 special) {f0 : FuncId} {fn0 : Func} {k0 : Tmp} (hf1 : F1[f0]? = some fn0) (hf2 : F2[f0]? = some fn0) (hres : fn0.results = #[.tmp k0])
    (hinit : (Program.mk T F2).inits.idxOf? f0 = none) {args : Array Value} {v W : World} (hnl : NoLoop v) (hv : Veil Lo (v.retape W.tape W.drawn) W)
    (hC : ∀ X d, Calls (Program.mk T F1) f0 args (v.retape X d) fun e w' => ∃ val, e = .returned val ∧ R val w') :
    ∃ N last o w' t', runNT (Program.mk T F2) (N + 1) (solo (G (Frame.enter (Program.mk T F2) f0 args .normal) []) W) #[] = (.ended o w', t') ∧
      runN (Program.mk T F2) N (solo (G (Frame.enter (Program.mk T F2) f0 args .normal) []) W) = .next last ∧ Go.step (Program.mk T F2) last = .ended o w' ∧
      Good (Program.mk T F2) (fun val w' => ∃ v' X d, R val (World.retape v' X d) ∧ Veil Lo (v'.retape w'.tape w'.drawn) w') last o w' t' := by
  have eq : Frame.enter (Program.mk T F2) f0 args .normal = Frame.enter (Program.mk T F1) f0 args .normal := by
    unfold Frame.enter
    rw [show (Program.mk T F2).funcs[f0]? = some fn0 from hf2, show (Program.mk T F1).funcs[f0]? = some fn0 from hf1]
  have hacc : Acc (Succ T F1) ⟨Frame.enter (Program.mk T F1) f0 args .normal, [], v⟩ := acc_of_ends fun X => by
    obtain ⟨e, w', fr, ⟨val, rfl, _⟩, hc, _, hl⟩ := hC X 0 [bottom]
    obtain ⟨N, hN⟩ := hc
    exact ⟨N, fr, w', hN, hl.1⟩
  have todo : ∀ it ∈ (Frame.enter (Program.mk T F1) f0 args .normal).todo, itemOk (Program.mk T F1) it = true := by
    obtain ⟨_, c, hc, fn2, hfn2, _, h⟩ := hT1.fns f0 fn0 hf1
    intro it hit
    simp only [Frame.enter, show (Program.mk T F1).funcs[f0]? = some fn0 from hf1, Option.bind_some, hc, List.mem_singleton] at hit
    subst hit
    rcases h with ⟨why, rfl⟩ | h | ⟨_, h⟩
    · rfl
    · exact h.elim
    · exact h
  have hn : NiceSt (T := T) (F1 := F1) ⟨Frame.enter (Program.mk T F1) f0 args .normal, [], v⟩ :=
    ⟨⟨rfl, rfl, rfl, ⟨fn0, hf1, hf1⟩, todo⟩, .inl rfl, fun x hx => by simp at hx, hnl⟩
  have hb : Both T F1 F2 ⟨Frame.enter (Program.mk T F1) f0 args .normal, [], v⟩ := ⟨⟨rfl, rfl, rfl, ⟨fn0, hf1, hf2⟩, todo⟩, fun x hx => by simp at hx⟩
  rw [eq, solo_eq_crowd]
  exact beside_run hT hT1 hPh hf2 hres hinit _ (acc_trans hacc) hn hb (ends_of_calls hC) rfl #[G (Frame.enter (Program.mk T F1) f0 args .normal) []] W none #[] (fun _ => 0) (fun _ => False) 0
    ⟨rfl, hv, ⟨(fun i g hi hg => by
      rw [Array.getElem?_eq_none (by simp; omega)] at hg
      cases hg), fun _ _ => rfl⟩, past_nil, fun x h => h.elim⟩
end
end Go.Veiled

namespace Go.Veiled
open Go.Conc
set_option linter.unusedSimpArgs false
set_option linter.unusedSectionVars false
set_option linter.unusedVariables false

section
variable {P : Program} {main : Bool} {R : World → World → Prop} {D : World → World → Array Event → Prop} {a : Act} {w : World}
theorem since_trans (T : Terms R D) {a b c : World} (h : Since R a b) (h' : Since R b c) : Since R a c := h'.elim (fun e => e ▸ h) fun r => h.rely T r

theorem run_call_clo {o : Oper} {f : FuncId} {fn : Func} {x : Operand} {caps : Array Value} {args : Array Operand} {ats : Array TypeId} (hop : o.op = .call { callee := .value x, args, argTypes := ats }) (hx : a.eval x = .func (.func f) #[] caps)
    (hf : P.funcs[f]? = some fn) (hname : (fn.name == "runtime.NumGoroutine") = false) (hb : fn.body.isNone = false) : (execOp a.eval o).run P w = .ok (.enter f (args.map a.eval ++ caps)) w := by
  have h1 : ¬ fn.name = "runtime.NumGoroutine" := by simpa using hname
  have h2 : ¬ fn.body = none := by cases hx : fn.body <;> simp_all
  unfold execOp
  simp [hop, hx, resolve, Deferred.ofValue, invoke, callFunc, hf, h1, h2]
theorem events_call_clo {o : Oper} {f : FuncId} {fn : Func} {x : Operand} {caps : Array Value} {args : Array Operand} {ats : Array TypeId} (hop : o.op = .call { callee := .value x, args, argTypes := ats }) (hx : a.eval x = .func (.func f) #[] caps)
    (hf : P.funcs[f]? = some fn) (hname : (fn.name == "runtime.NumGoroutine") = false) (hb : fn.body.isNone = false) (es : Array Event) : (execOp a.eval o).events P w es = es := by
  have h1 : ¬ fn.name = "runtime.NumGoroutine" := by simpa using hname
  have h2 : ¬ fn.body = none := by cases hx : fn.body <;> simp_all
  unfold execOp
  simp [hop, hx, resolve, Deferred.ofValue, invoke, callFunc, hf, h1, h2]

variable {b : Frame} {k : List Item} {cs : List Frame}
theorem goes_call_clo {ops : Array Oper} {i : Nat} {rest : List Nat} {o : Oper} {K : Goroutine → World → Array Event → Prop} {f : FuncId} {fn : Func} {c : Code} {x : Operand} {caps : Array Value} {args : Array Operand} {ats : Array TypeId}
    (ho : ops[i]? = some o) (hw : Region.wanted o (yielded ops a.tmps) = true) (hk : b.kind ≠ .early) (hop : o.op = .call { callee := .value x, args, argTypes := ats }) (hx : a.eval x = .func (.func f) #[] caps)
    (hf : P.funcs[f]? = some fn) (hname : (fn.name == "runtime.NumGoroutine") = false) (hb : fn.body = some c)
    (h : K (G ((base f).at { tmps := (args.map a.eval ++ caps) ++ Array.replicate (fn.ntmps - (args.map a.eval ++ caps).size) undef, defers := [] } [.code c]) (b.at a (.inRegion ops (i :: rest) :: k) :: cs)) w #[]) :
    (stepG P main (G (b.at a (.inRegion ops (i :: rest) :: k)) cs) w).goes K := by
  have hb' : fn.body.isNone = false := by rw [hb]; rfl
  rw [stepG_enter ho hw hk (run_call_clo hop hx hf hname hb'), enter_at _ hf hb]
  have : listed P b.fn a o w = #[] := by unfold listed; rw [events_call_clo hop hx hf hname hb']; exact seen_none P _
  rw [this]
  exact h

/-- Through a call of a function value, by its contract. -/
theorem Goes.callc (T : Terms R D) {ops : Array Oper} {i : Nat} {rest : List Nat} {o : Oper} {f : FuncId} {x : Operand} {caps : Array Value} {args : Array Operand} {ats : Array TypeId} {vs : Array Value}
    {nf m : Nat} {Post : Value → World → Prop} {Stop : Goroutine → World → Prop}
    (ho : ops[i]? = some o) (hw : Region.wanted o (yielded ops a.tmps) = true) (hk : b.kind ≠ .early) (hop : o.op = .call { callee := .value x, args, argTypes := ats }) (hx : a.eval x = .func (.func f) #[] caps)
    (hargs : args.map a.eval ++ caps = vs) (hcall : CallsC P main R D f vs nf w Post)
    (hnext : ∀ v w', Post v w' → Goes P main R D Stop m (G (b.at (a.put o.dst v) (.inRegion ops rest :: k)) cs) w') :
    Goes P main R D Stop (m + nf + 3) (G (b.at a (.inRegion ops (i :: rest) :: k)) cs) w := by
  subst hargs
  obtain ⟨fn, c, hf, hname, hbody, hwp⟩ := hcall
  have hfin : ∀ v, (b.at a (.inRegion ops (i :: rest) :: k)).finish v = b.at (a.put o.dst v) (.inRegion ops rest :: k) := fun v => by rw [Frame.finish_at, ho]; rfl
  have hleave : ∀ (a' : Act) (w' : World) (todo : List Item), (a'.defers = [] ∧ ∃ v, ResultsC P fn a'.tmps v ∧ Post v w') →
      Goes P main R D Stop (m + 1) (G { (base f).at a' todo with mode := .returning } (b.at a (.inRegion ops (i :: rest) :: k) :: cs)) w' := by
    rintro a' w' todo ⟨hd, v, hr, hp⟩
    refine Goes.step rfl fun w₁ h₁ => ?_
    rw [stepG_leave (b := base f) rfl hd hf (hr w₁).1 (hr w₁).2, hfin]
    exact ⟨T.idle _, (hnext v w' hp).rely T.trans h₁⟩
  have hbodyG : Goes P main R D Stop (m + 2 + nf) (G ((base f).at { tmps := (args.map a.eval ++ caps) ++ Array.replicate (fn.ntmps - (args.map a.eval ++ caps).size) undef, defers := [] } [.code c]) (b.at a (.inRegion ops (i :: rest) :: k) :: cs)) w := by
    refine hwp (base f) [] _ Stop (m + 2) rfl (by simp [base]) fun e a' w' q => ?_
    cases e with
    | normal => exact Goes.step rfl fun w₁ h₁ => by rw [stepG_end]; exact ⟨T.idle _, (hleave a' w' [] q).rely T.trans h₁⟩
    | ret => exact fun todo => (hleave a' w' todo q).more
    | exit id => exact q.elim
    | goto l => exact q.elim
    | panic ch => exact q.elim
    | outgrown => exact q.elim
  have e : m + nf + 3 = (m + 2 + nf) + 1 := by omega
  rw [e]
  exact Goes.step rfl fun w₁ h₁ => goes_call_clo ho hw hk hop hx hf hname hbody ⟨T.idle _, hbodyG.rely T.trans h₁⟩

theorem opsC_callc (T : Terms R D) {fn : FuncId} {Q : Exit → Act → World → Prop} {ops : Array Oper} {i : Nat} {rest : List Nat} {o : Oper} {f : FuncId} {x : Operand} {caps : Array Value} {args : Array Operand} {ats : Array TypeId} {vs : Array Value} {nf n : Nat} {Post : Value → World → Prop}
    (ho : ops[i]? = some o) (hw : Region.wanted o (yielded ops a.tmps) = true) (hop : o.op = .call { callee := .value x, args, argTypes := ats }) (hx : a.eval x = .func (.func f) #[] caps)
    (hargs : args.map a.eval ++ caps = vs) (hcall : CallsC P main R D f vs nf w Post) (hnext : ∀ v w', Post v w' → OpsC P main R D fn ops rest n Q (a.put o.dst v) w') : OpsC P main R D fn ops (i :: rest) (n + nf + 3) Q a w := by
  intro b k cs Stop m hb hk hc
  have := Goes.callc (Stop := Stop) (m := m + n) (b := b) (k := k) (cs := cs) T ho hw hk hop hx hargs hcall fun v w' hp => hnext v w' hp b k cs Stop m hb hk hc
  exact this.mono (by omega)

theorem Goes.callv (T : Terms R D) {ops : Array Oper} {i : Nat} {rest : List Nat} {o : Oper} {f : FuncId} {args : Array Operand} {ats : Array TypeId} {vs : Array Value}
    {nf m : Nat} {Post : Value → World → Prop} {Stop : Goroutine → World → Prop}
    (ho : ops[i]? = some o) (hw : Region.wanted o (yielded ops a.tmps) = true) (hk : b.kind ≠ .early) (hop : o.op = .call { callee := .value (.func f), args, argTypes := ats })
    (hargs : args.map a.eval = vs) (hcall : CallsC P main R D f vs nf w Post)
    (hnext : ∀ v w', Post v w' → Goes P main R D Stop m (G (b.at (a.put o.dst v) (.inRegion ops rest :: k)) cs) w') :
    Goes P main R D Stop (m + nf + 3) (G (b.at a (.inRegion ops (i :: rest) :: k)) cs) w := by
  subst hargs
  exact Go.Conc.Goes.call T ho hw hk hop hcall hnext
/-- Through a call, the arguments named. -/
theorem opsC_callv (T : Terms R D) {fn : FuncId} {Q : Exit → Act → World → Prop} {ops : Array Oper} {i : Nat} {rest : List Nat} {o : Oper} {f : FuncId} {args : Array Operand} {ats : Array TypeId} {vs : Array Value} {nf n : Nat} {Post : Value → World → Prop}
    (ho : ops[i]? = some o) (hw : Region.wanted o (yielded ops a.tmps) = true) (hop : o.op = .call { callee := .value (.func f), args, argTypes := ats }) (hargs : args.map a.eval = vs)
    (hcall : CallsC P main R D f vs nf w Post) (hnext : ∀ v w', Post v w' → OpsC P main R D fn ops rest n Q (a.put o.dst v) w') : OpsC P main R D fn ops (i :: rest) (n + nf + 3) Q a w := by
  subst hargs
  exact opsC_call T ho hw hop hcall hnext
end
end Go.Veiled

namespace Go.Veiled
open Go.Conc
set_option linter.unusedSimpArgs false
set_option linter.unusedSectionVars false
set_option linter.unusedVariables false

section
variable {T : Tables} {F1 : Array Func} {R : Value → World → Prop} {fr fr' : Frame} {l : List Frame} {v v' : World} {es : Array Event}
theorem ends_go (hT : Twin T F1 F1 (fun _ => False)) (hn : NiceSt (T := T) (F1 := F1) ⟨fr, l, v⟩) (he : Ends T F1 R ⟨fr, l, v⟩) (hd : fr.mode = .run) (hs : ∀ k, stepG (Program.mk T F1) true (G fr k) v = .go (G fr' k) v' es) :
    NiceSt (T := T) (F1 := F1) ⟨fr', l, v'⟩ ∧ Ends T F1 R ⟨fr', l, v'⟩ := by
  obtain ⟨s', es', h1, he'⟩ := Ends.step hT hn (fun h => by have := h.1; rw [show (St.fr ⟨fr, l, v⟩) = fr from rfl, hd] at this; cases this) he v.tape v.drawn
  have hq := (hs (l ++ [bottom])).symm.trans h1.q
  simp only [GStep.go.injEq] at hq
  obtain ⟨e1, e2, _⟩ := hq
  have := st_eq (l := l) e1.symm e2.symm
  subst this
  exact ⟨h1.nice, he'⟩
theorem ends_bad (hT : Twin T F1 F1 (fun _ => False)) (hn : NiceSt (T := T) (F1 := F1) ⟨fr, l, v⟩) (he : Ends T F1 R ⟨fr, l, v⟩) (hd : fr.mode = .run) (hs : ∀ k, ∃ o w es, stepG (Program.mk T F1) true (G fr k) v = .ended o w es) : False := by
  obtain ⟨s', es', h1, he'⟩ := Ends.step hT hn (fun h => by have := h.1; rw [show (St.fr ⟨fr, l, v⟩) = fr from rfl, hd] at this; cases this) he v.tape v.drawn
  obtain ⟨o, w, es, h⟩ := hs (l ++ [bottom])
  have := h.symm.trans h1.q
  cases this

variable {b : Frame} {a : Act} {ops : Array Oper} {i : Nat} {rest : List Nat} {k : List Item} {o : Oper} {u : Value}
theorem ends_val (hT : Twin T F1 F1 (fun _ => False)) (hn : NiceSt (T := T) (F1 := F1) ⟨b.at a (.inRegion ops (i :: rest) :: k), l, v⟩) (he : Ends T F1 R ⟨b.at a (.inRegion ops (i :: rest) :: k), l, v⟩)
    (ho : ops[i]? = some o) (hw : Region.wanted o (yielded ops a.tmps) = true) (hk : b.kind ≠ .early) (hr : (execOp a.eval o).run (Program.mk T F1) v = .ok (.value u) v') :
    NiceSt (T := T) (F1 := F1) ⟨b.at (a.put o.dst u) (.inRegion ops rest :: k), l, v'⟩ ∧ Ends T F1 R ⟨b.at (a.put o.dst u) (.inRegion ops rest :: k), l, v'⟩ :=
  ends_go hT hn he rfl fun k => stepG_value ho hw hk hr
theorem ends_halt (hT : Twin T F1 F1 (fun _ => False)) (hn : NiceSt (T := T) (F1 := F1) ⟨b.at a (.inRegion ops (i :: rest) :: k), l, v⟩) (he : Ends T F1 R ⟨b.at a (.inRegion ops (i :: rest) :: k), l, v⟩)
    (ho : ops[i]? = some o) (hw : Region.wanted o (yielded ops a.tmps) = true) {x : Halt} (hx : (∃ y, x = .stuck y) ∨ ∃ y, x = .unsupported y) (hr : (execOp a.eval o).run (Program.mk T F1) v = .halt x v') : False := by
  refine ends_bad hT hn he rfl fun k => ?_
  rw [stepG_oper ho hw]
  have h2 : (execOp a.eval o).runT (Program.mk T F1) v #[] = (.halt x v', (execOp a.eval o).events (Program.mk T F1) v #[]) := by rw [Sem.runT_eq, hr]
  rcases hx with ⟨y, rfl⟩ | ⟨y, rfl⟩
  · exact apply_stuck h2
  · exact apply_unsupported hT.ahead hT.step h2
end
end Go.Veiled
