/-
  Goroutines, part H: how a step comes out.
  Goroutines, part M: the trees that find a method; calls.
  Goroutines, part N: how each step of a nice frame comes out.
  Goroutines, part O: a lone run that returns, on every tape, is well founded.
  Goroutines, part R: a lone run that ends, step by step.
  Goroutines, part S: goroutine 0 beside others that only leave: one step of its own.
  Goroutines, part U: a whole run beside others that only leave, off a lone run of the twin.
  Goroutines, part V: the run in the program itself.
-/
import Derived.Test.YtechkghnmgimbaaGoA
import Derived.Conc.LoneCalls

namespace Go.Veiled
set_option linter.unusedSimpArgs false
set_option linter.unusedSectionVars false
set_option linter.unusedVariables false
open Go.Conc

theorem seen_fine {p q : Program} {fn : FuncId} (h : (p.funcs[fn]?).any (·.norace) = (q.funcs[fn]?).any (·.norace)) {es : Array Event} (hx : ∀ e ∈ es, ∀ f, e.loc ≠ .mark (.extern f)) : seen p fn es = seen q fn es := by
  unfold seen
  dsimp only
  rw [h]
  congr 1
  rw [← Array.foldl_toList, ← Array.foldl_toList]
  have key : ∀ (l : List Event), (∀ e ∈ l, ∀ f, e.loc ≠ .mark (.extern f)) → ∀ x : Bool × Array Event,
      l.foldl (fun x e => match e.loc with | .mark (.extern f) => ((p.funcs[f]?).any (·.norace), x.2) | _ => (x.1, if x.1 && !e.sync then x.2 else x.2.push e)) x =
      l.foldl (fun x e => match e.loc with | .mark (.extern f) => ((q.funcs[f]?).any (·.norace), x.2) | _ => (x.1, if x.1 && !e.sync then x.2 else x.2.push e)) x := by
    intro l
    induction l with
    | nil => intro _ x; rfl
    | cons e l ih =>
      intro hl x
      simp only [List.foldl_cons]
      have he := hl e (by simp)
      have : ∀ (r : Program), (match e.loc with | .mark (.extern f) => ((r.funcs[f]?).any (·.norace), x.2) | _ => (x.1, if x.1 && !e.sync then x.2 else x.2.push e)) = (x.1, if x.1 && !e.sync then x.2 else x.2.push e) := by
        intro r
        split
        · rename_i f hf; exact absurd hf (he f)
        · rfl
      rw [this p, this q]
      exact ih (fun e' h' => hl e' (List.mem_cons_of_mem _ h')) _
  exact key es.toList (fun e he => hx e (by simpa using he)) _

theorem plain_noExtern {Bl : Nat → Prop} {n : Nat} {e : Event} (h : Plain Bl n e) : ∀ f, e.loc ≠ .mark (.extern f) := by
  intro f hf
  unfold Plain at h
  rw [hf] at h
  exact h

section
variable {T : Tables} {F1 F2 : Array Func} {special : FuncId → Prop}

/-- What is known of a run of a tree in both. -/
structure Ran {α : Type} (s : Sem α) (v : World) (x : α) (v' : World) (es : Array Event) : Prop where
  q : s.runT (Program.mk T F1) v #[] = (.ok x v', es)
  p : ∀ (Lo : Nat → Option Obj) w, Veil Lo v w → ∃ w', s.runT (Program.mk T F2) w #[] = (.ok x w', es) ∧ Veil Lo v' w'
  after : After (Blind v) v v' #[] es
  noLoop : NoLoop v'
  tape : v'.tape = v.tape
  drawn : v.drawn ≤ v'.drawn
  local_ : ∀ (T' : Nat → Question → Nat) (d' : Nat), (∀ i, i < v'.drawn - v.drawn → T' (d' + i) = v.tape (v.drawn + i)) → s.runT (Program.mk T F1) (v.retape T' d') #[] = (.ok x (v'.retape T' (d' + (v'.drawn - v.drawn))), es)

theorem Ran.tame {α : Type} {s : Sem α} (hT : Tame (Program.mk T F1) (Program.mk T F2) s) {v v' : World} {x : α} {es : Array Event} (hnl : NoLoop v) (h : s.runT (Program.mk T F1) v #[] = (.ok x v', es)) : Ran (T := T) (F1 := F1) (F2 := F2) s v x v' es := by
  have hb : ∀ r, Blind v r → Blind v r := fun _ h => h
  have base : ∀ {Lo : Nat → Option Obj} {w : World}, Veil Lo v w → ∃ r', s.runT (Program.mk T F2) w #[] = (r', es) ∧ Alike Lo (.ok x v') r' ∧ After (Blind v) v v' #[] es := fun {Lo w} hw => veil_run (Q := (Program.mk T F1)) (P := (Program.mk T F2)) rfl hT (Bl := Blind v) hw hnl hb h trivial
  obtain ⟨_, _, hl, hA⟩ := base (Lo := fun r => v.heap[r]?) (w := v) ⟨rfl, rfl, rfl, rfl, rfl, fun _ _ => rfl, fun r hr => ⟨Nat.lt_of_not_le fun hle => hr (Array.getElem?_eq_none hle), .inl rfl⟩, fun _ => .inl rfl⟩
  have hnl' : NoLoop v' := by cases hl; assumption
  have ht := tape_run hT h trivial
  refine ⟨h, fun Lo w hw => ?_, hA, hnl', ht.1, ht.2.1, fun T' d' htt => ht.2.2 T' d' htt⟩
  obtain ⟨r', h1, h2, _⟩ := base hw
  cases h2 with
  | ok _ _ w' hv' _ => exact ⟨w', h1, hv'⟩

/-- A tree that is carried out by a step. -/
theorem apply_run {s : Sem Next} {fr : Frame} (hf : Fine T F1 F2 fr.fn) {v v' : World} {x : Next} {es : Array Event} (h : Ran (T := T) (F1 := F1) (F2 := F2) s v x v' es) (KQ KP : List Frame → Goroutine)
    (hq : ∀ (w w' : World) (es : Array Event) l, s.runT (Program.mk T F1) w #[] = (.ok x w', es) → stepG.apply (Program.mk T F1) true fr l none s w = .go (KQ l) w' (seen (Program.mk T F1) fr.fn es))
    (hp : ∀ (w w' : World) (es : Array Event) l, s.runT (Program.mk T F2) w #[] = (.ok x w', es) → stepG.apply (Program.mk T F2) true fr l none s w = .go (KP l) w' (seen (Program.mk T F2) fr.fn es))
    (hs : ∀ (p : Program) w l, stepG p true (G fr l) w = stepG.apply p true fr l none s w) :
    ∃ es', Matches (T := T) (F1 := F1) (F2 := F2) (G fr) v KQ KP v' es' := by
  obtain ⟨fn, f1, f2⟩ := hf
  have hnx : ∀ e ∈ es, ∀ f, e.loc ≠ .mark (.extern f) := fun e he => plain_noExtern ((h.after.fine e he).resolve_left (by simp))
  have hsn : seen (Program.mk T F2) fr.fn es = seen (Program.mk T F1) fr.fn es := seen_fine (by show (F2[fr.fn]?).any _ = (F1[fr.fn]?).any _; rw [f1, f2]) hnx
  refine ⟨seen (Program.mk T F1) fr.fn es, fun l => ?_, fun Lo w hw => ?_, h.after.size, h.noLoop, h.after.blind, fun e he => (h.after.fine e (mem_seen he)).resolve_left (by simp), h.tape, h.drawn, fun T' d' htt l => ?_⟩
  · rw [hs, hq v v' es l h.q]
  · obtain ⟨w', h1, hv'⟩ := h.p Lo w hw
    exact ⟨w', hv', fun l => by rw [hs, hp w w' es l h1, hsn]⟩
  · rw [hs, hq _ _ es l (h.local_ T' d' htt)]

/-! ### what a step does with a tree's result -/
theorem apply_value {p : Program} {fr : Frame} {l : List Frame} {s : Sem Next} {w w' : World} {es : Array Event} {u : Value} (hk : fr.kind = .normal) (h : s.runT p w #[] = (.ok (.value u) w', es)) :
    stepG.apply p true fr l none s w = .go (G (fr.finish u) l) w' (seen p fr.fn es) := by
  have hk' : (fr.kind == CallKind.early) = false := by rw [hk]; rfl
  simp [stepG.apply, h, hk', GStep.after, G, -Sem.runT_eq]
theorem apply_skip {p : Program} {fr : Frame} {l : List Frame} {s : Sem Next} {w w' : World} {es : Array Event} (hk : fr.kind = .normal) (h : s.runT p w #[] = (.ok .skip w', es)) :
    stepG.apply p true fr l none s w = .go (G (fr.finish undef) l) w' (seen p fr.fn es) := by
  have hk' : (fr.kind == CallKind.early) = false := by rw [hk]; rfl
  simp [stepG.apply, h, hk', GStep.after, G, -Sem.runT_eq]
theorem apply_enter {p : Program} {fr : Frame} {l : List Frame} {s : Sem Next} {w w' : World} {es : Array Event} {f : FuncId} {args : Array Value} (hk : fr.kind = .normal) {ops : Array Oper} {r : List Nat} {k : List Item} (ht : fr.todo = .inRegion ops r :: k)
    (h : s.runT p w #[] = (.ok (.enter f args) w', es)) :
    stepG.apply p true fr l none s w = .go (G (Frame.enter p f args .normal) (fr :: l)) w' (seen p fr.fn es) := by
  have hk' : (fr.kind == CallKind.early) = false := by rw [hk]; rfl
  simp [stepG.apply, h, hk', GStep.after, G, ht, -Sem.runT_eq]
theorem apply_panic {p : Program} {fr : Frame} {l : List Frame} {s : Sem Next} {w w' : World} {es : Array Event} {u : Value} (hk : fr.kind = .normal) (h : s.runT p w #[] = (.halt (.panic u) w', es)) :
    stepG.apply p true fr l none s w = .go (G (fr.raise [{ v := u, recovered := false }]) l) w' (seen p fr.fn es) := by
  have hk' : (fr.kind == CallKind.early) = false := by rw [hk]; rfl
  simp [stepG.apply, h, hk', GStep.after, G, -Sem.runT_eq]
theorem after_ended {es : Array Event} {s : GStep} (h : ∃ o w e, s = .ended o w e) : ∃ o w e, GStep.after es s = .ended o w e := by
  obtain ⟨o, w, e, rfl⟩ := h
  exact ⟨o, w, _, rfl⟩
theorem apply_stuck {p : Program} {fr : Frame} {l : List Frame} {s : Sem Next} {w w' : World} {es : Array Event} {y : String} (h : s.runT p w #[] = (.halt (.stuck y) w', es)) :
    ∃ o w₁ e, stepG.apply p true fr l none s w = .ended o w₁ e := by
  unfold stepG.apply
  simp only [h, if_true]
  exact after_ended ⟨_, _, _, rfl⟩
theorem early_refuse {p : Program} (ha : p.follows .staticDataAhead = true) (hs : ∀ g, p.stepOf g = none) (fr : Frame) (l : List Frame) (k : Nat) (w : World) :
    ∃ o w₁ e, early p fr l none k w = .ended o w₁ e := by
  unfold early
  simp only [ha, hs, Bool.not_true, Bool.false_eq_true, if_false]
  exact ⟨_, _, _, rfl⟩
theorem apply_unsupported {p : Program} (ha : p.follows .staticDataAhead = true) (hst : ∀ g, p.stepOf g = none) {fr : Frame} {l : List Frame} {s : Sem Next} {w w' : World} {es : Array Event} {u : Unsupported} (h : s.runT p w #[] = (.halt (.unsupported u) w', es)) :
    ∃ o w₁ e, stepG.apply p true fr l none s w = .ended o w₁ e := by
  unfold stepG.apply
  simp only [h, if_true]
  refine after_ended ?_
  cases u <;> first | exact early_refuse ha hst _ _ _ _ | exact ⟨_, _, _, rfl⟩

/-- A tree whose result is a value's. -/
theorem value_shape {p : Program} {s : Sem Value} {w w' : World} {es es' : Array Event} {x : Next} (h : (do pure (.value (← s)) : Sem Next).runT p w es = (.ok x w', es')) : ∃ u, x = .value u := by
  have h' : (s.bind fun u => (pure (Next.value u) : Sem Next)).runT p w es = (.ok x w', es') := h
  rw [Sem.runT_bind'] at h'
  split at h'
  · rename_i a _ _ _
    have : (Result.ok (Next.value a) _, _) = _ := h'
    simp only [Prod.mk.injEq, Result.ok.injEq] at this
    exact ⟨a, this.1.1.symm⟩
  · cases h'
theorem skip_shape {p : Program} {s : Sem Unit} {w w' : World} {es es' : Array Event} {x : Next} (h : (do s; pure .skip : Sem Next).runT p w es = (.ok x w', es')) : x = .skip := by
  have h' : (s.bind fun u => (pure Next.skip : Sem Next)).runT p w es = (.ok x w', es') := h
  rw [Sem.runT_bind'] at h'
  split at h'
  · have : (Result.ok Next.skip _, _) = _ := h'
    simp only [Prod.mk.injEq, Result.ok.injEq] at this
    exact this.1.1.symm
  · cases h'
theorem op_shape {q : Program} (ρ : Operand → Value) {o : Oper} (h : okOp q o = true) (hc : isCall o = false) {p : Program} {w w' : World} {es es' : Array Event} {x : Next} (hr : (execOp ρ o).runT p w es = (.ok x w', es')) : (∃ u, x = .value u) ∨ x = .skip := by
  obtain ⟨dst, op, type, pos, after, guard⟩ := o
  cases op with
  | move y =>
    have : (Result.ok (Next.value (ρ y)) w, es) = _ := hr
    simp only [Prod.mk.injEq, Result.ok.injEq] at this
    exact .inl ⟨_, this.1.1.symm⟩
  | assign y =>
    have : (Result.ok (Next.value (ρ y)) w, es) = _ := hr
    simp only [Prod.mk.injEq, Result.ok.injEq] at this
    exact .inl ⟨_, this.1.1.symm⟩
  | pick c a b => exact .inl (value_shape (s := do pure (if ← asBool (ρ c) then ρ a else ρ b)) (by
      rw [← hr]
      show Sem.runT p (Sem.bind (Sem.bind _ _) _) _ _ = Sem.runT p (Sem.bind _ _) _ _
      rw [Sem.bind_assoc']
      rfl))
  | store t a x => exact .inr (skip_shape hr)
  | call c =>
    obtain ⟨callee, args, ats⟩ := c
    cases callee with
    | value f => cases hc
    | invoke r n => cases h
    | builtin b => cases b <;> first | (cases h; done) | exact .inl (value_shape hr)
  | alloc e => exact .inl (value_shape hr)
  | box e x => exact .inl (value_shape hr)
  | build t p => exact .inl (value_shape hr)
  | buildSlice t n p => exact .inl (value_shape hr)
  | load t a => exact .inl (value_shape hr)
  | unOp u t x => exact .inl (value_shape hr)
  | makeFunc f a b => exact .inl (value_shape hr)
  | makeSlice t l c => exact .inl (value_shape hr)
  | extract t i => exact .inl (value_shape hr)
  | index t x i => exact .inl (value_shape hr)
  | indexAddr t x i => exact .inl (value_shape hr)
  | fieldAddr t x f => exact .inl (value_shape hr)
  | binOp b t x y z => exact .inl (value_shape hr)
  | convert s d x => exact .inl (value_shape hr)
  | _ => cases h
end
end Go.Veiled

namespace Go.Veiled
set_option linter.unusedSimpArgs false
set_option linter.unusedSectionVars false
set_option linter.unusedVariables false
open Go.Conc

section
variable {T : Tables} {F1 F2 : Array Func} {special : FuncId → Prop}

theorem tm_get (t : TypeId) (x : Place) : (Tame (Program.mk T F1) (Program.mk T F2)) (x.get t) := by
  cases x with
  | val v => trivial
  | var a => exact tm_loadVar _ _
theorem tm_fieldPlace (a : Addr) (f : Field) : (Tame (Program.mk T F1) (Program.mk T F2)) (fieldPlace a f) := by
  refine Tame.bind (tm_size _) fun n => ?_
  split
  · exact tm_partAt _ _ _
  · trivial
theorem tm_follow : ∀ (l : List FieldStep) (t : TypeId) (x : Place), (Tame (Program.mk T F1) (Program.mk T F2)) (follow l t x) := by
  intro l
  induction l with
  | nil => intro t x; trivial
  | cons s rest ih =>
    intro t x
    unfold follow
    refine Tame.bind (tm_under _) fun u => ?_
    split
    · split
      · split
        · exact Tame.bind (tm_get _ _) fun v => Tame.bind (tm_asAddr _) fun a => Tame.bind (tm_fieldPlace _ _) fun _ => ih _ _
        · split
          · exact Tame.bind (tm_fieldPlace _ _) fun _ => ih _ _
          · exact Tame.bind (tm_part _ _ _) fun _ => ih _ _
          · trivial
      · trivial
    · trivial
theorem tm_ssa (ts : Array TypeId) (t : TypeId) (x : Value) (y z : ByteArray) : (Tame (Program.mk T F1) (Program.mk T F2)) (Builtin.ssaWrapNilChk_ ts t #[x, .string y, .string z]) := by
  unfold Builtin.ssaWrapNilChk_
  dsimp +zetaHave only
  generalize ts[0]? = q
  rcases x with _ | _ | _ | _ | _ | (_ | a) | _ | _ | _ | _ | _ | _ | _ | _ <;> try trivial
  refine Tame.bind (tm_choose (.extern "ssa:wrapnilchk.dereferenced" 2)) fun r => ?_
  repeat' (first
      | with_reducible exact Tame.pure' _
      | with_reducible exact tm_stuck _
      | with_reducible exact tm_unsupported _
      | with_reducible exact tm_rtPanic _
      | with_reducible exact tm_under _
      | with_reducible exact tm_typeInfo _
      | with_reducible exact tm_choose _
      | with_reducible refine Tame.bind ?_ fun _ => ?_
      | refine Tame.ite ?_ ?_
      | split)
theorem tm_receiverAt (t : TypeId) (x : Place) (b : Bool) (w : Option String) : (Tame (Program.mk T F1) (Program.mk T F2)) (receiverAt t x b w) := by
  unfold receiverAt
  dsimp +zetaHave only
  refine Tame.bind (tm_under _) fun u => ?_
  split
  · exact tm_get _ _
  · refine Tame.bind (tm_get _ _) fun v => ?_
    split
    · exact Tame.bind (tm_ssa _ _ _ _ _) fun _ => Tame.bind (tm_asAddr _) fun _ => tm_loadVar _ _
    · exact Tame.bind (s := pure _) trivial fun _ => Tame.bind (tm_asAddr _) fun _ => tm_loadVar _ _
  · trivial
  · trivial
  · exact tm_get _ _
theorem tm_via (t : TypeId) (v : Value) (path : Array FieldStep) (b : Bool) : (Tame (Program.mk T F1) (Program.mk T F2)) (receiverVia t v path b) := Tame.bind (tm_follow _ _ _) fun y => tm_receiverAt _ _ _ _
theorem tm_method : ∀ (n : Nat) (t : TypeId) (v : Value) (name : String), (Tame (Program.mk T F1) (Program.mk T F2)) (method n t v name) := by
  intro n
  induction n with
  | zero => intro t v name; trivial
  | succ n ih =>
    intro t v name
    unfold method
    dsimp +zetaHave only
    refine Tame.bind (tm_typeInfo _) fun i => ?_
    split
    · refine Tame.bind (tm_follow _ _ _) fun y => ?_
      split
      · refine Tame.bind (tm_get _ _) fun z => ?_
        split
        · exact ih _ _ _
        · exact tm_rtPanic _
        · trivial
      · exact Tame.bind (tm_receiverAt _ _ _ _) fun _ => trivial
    · trivial
/-- A call through an interface: first the function is found. -/
theorem method_split (recv : Value) (name : String) (args : Array Value) : ∃ pre : Sem (FuncId × Array Value), (Tame (Program.mk T F1) (Program.mk T F2)) pre ∧ callMethod recv name args = pre >>= fun y => callFunc y.1 y.2 := by
  cases recv with
  | iface t v =>
    refine ⟨do let p ← program; let y ← method (p.types.size + Made.depth) t v name; pure (y.1, #[y.2] ++ args), Tame.prog rfl (Tame.bind (tm_method _ _ _ _) fun _ => trivial), ?_⟩
    simp only [callMethod, bind_assoc, pure_bind]
  | nilIface => exact ⟨runtimePanic .nilDeref, tm_rtPanic _, rfl⟩
  | _ => exact ⟨stuck "invoke: interface value expected", trivial, rfl⟩

theorem call_split (u : Value) (args : Array Value) : (∃ l first cap, u = .func (.yield l) first cap) ∨
    ∃ pre : Sem (FuncId × Array Value), (Tame (Program.mk T F1) (Program.mk T F2)) pre ∧ (do let d ← Deferred.ofValue u args; invoke d.target d.args) = pre >>= fun y => callFunc y.1 y.2 := by
  cases u with
  | func fn first cap =>
    cases fn with
    | yield l => exact .inl ⟨l, first, cap, rfl⟩
    | func g => exact .inr ⟨pure (g, (first ++ args) ++ cap), trivial, rfl⟩
    | method name =>
      right
      cases h : (first ++ args)[0]? with
      | none =>
        refine ⟨stuck "call: a method without a receiver", trivial, ?_⟩
        show (match (first ++ args)[0]? with | some recv => callMethod recv name ((first ++ args).extract 1 (first ++ args).size) | _ => stuck "call: a method without a receiver") = _
        rw [h]
        rfl
      | some recv =>
        obtain ⟨pre, hp, e⟩ := method_split (T := T) (F1 := F1) (F2 := F2) recv name ((first ++ args).extract 1 (first ++ args).size)
        refine ⟨pre, hp, ?_⟩
        rw [← e]
        show (match (first ++ args)[0]? with | some recv => callMethod recv name ((first ++ args).extract 1 (first ++ args).size) | _ => stuck "call: a method without a receiver") = _
        rw [h]
    | methodOf t name =>
      right
      cases h : (first ++ args)[0]? with
      | none =>
        refine ⟨stuck "call: a method expression without a receiver", trivial, ?_⟩
        show (match (first ++ args)[0]? with | some r => _ | _ => stuck "call: a method expression without a receiver") = _
        rw [h]
        rfl
      | some recv =>
        have key : ∀ d : TypeDesc, ∃ pre : Sem (FuncId × Array Value), (Tame (Program.mk T F1) (Program.mk T F2)) pre ∧ callMethod (match d with | .interface _ => recv | _ => .iface t recv) name ((first ++ args).extract 1 (first ++ args).size) = pre >>= fun y => callFunc y.1 y.2 := fun d => method_split _ _ _
        refine ⟨do let d ← underlying t; Classical.choose (key d), Tame.bind (tm_under t) fun d => (Classical.choose_spec (key d)).1, ?_⟩
        show (match (first ++ args)[0]? with | some r => (do
            let d ← underlying t
            callMethod (match d with | .interface _ => r | _ => .iface t r) name ((first ++ args).extract 1 (first ++ args).size)) | _ => stuck "call: a method expression without a receiver") = _
        rw [h, bind_assoc]
        show (underlying t >>= fun d => _) = _
        congr 1
        funext d
        exact (Classical.choose_spec (key d)).2
    | via t path g ptr =>
      right
      cases h : (first ++ args)[0]? with
      | none =>
        refine ⟨stuck "call: a method expression without a receiver", trivial, ?_⟩
        show (match (first ++ args)[0]? with | some r => _ | _ => stuck "call: a method expression without a receiver") = _
        rw [h]
        rfl
      | some recv =>
        refine ⟨do let r ← receiverVia t recv path ptr; pure (g, #[r] ++ (first ++ args).extract 1 (first ++ args).size), Tame.bind (tm_via _ _ _ _) fun _ => trivial, ?_⟩
        show (match (first ++ args)[0]? with | some r => (do
            let z ← receiverVia t r path ptr
            callFunc g (#[z] ++ (first ++ args).extract 1 (first ++ args).size)) | _ => stuck "call: a method expression without a receiver") = _
        rw [h]
        simp only [bind_assoc, pure_bind]
  | nilFunc => exact .inr ⟨runtimePanic .nilDeref, tm_rtPanic _, rfl⟩
  | _ => exact .inr ⟨stuck "call: function value expected", trivial, rfl⟩
end
end Go.Veiled

namespace Go.Veiled
set_option linter.unusedSimpArgs false
set_option linter.unusedSectionVars false
set_option linter.unusedVariables false
open Go.Conc

section
variable {T : Tables} {F1 F2 : Array Func} {special : FuncId → Prop}

theorem finish_fn (fr : Frame) (u : Value) : (fr.finish u).fn = fr.fn := by
  unfold Frame.finish
  split <;> rfl
theorem callFunc_run (hT : Twin T F1 F2 special) {g : FuncId} {args : Array Value} {v v' : World} {es es' : Array Event} {x : Next} (h : (callFunc g args).runT (Program.mk T F1) v es = (.ok x v', es')) :
    x = .enter g args ∧ v' = v ∧ es' = es ∧ ∃ fn, F1[g]? = some fn := by
  simp only [callFunc, program, bind, Sem.bind, Sem.runT] at h
  cases hf : F1[g]? with
  | none =>
    rw [show (Program.mk T F1).funcs[g]? = none from hf] at h
    simp only [stuck, Sem.runT] at h
    cases h
  | some fn =>
    rw [show (Program.mk T F1).funcs[g]? = some fn from hf] at h
    obtain ⟨hname, c, hb, _⟩ := hT.fns g fn hf
    simp only [hname, hb, Option.isNone_some, Bool.false_eq_true, if_false] at h
    have : (Result.ok (Next.enter g args) v, es) = (Result.ok x v', es') := h
    simp only [Prod.mk.injEq, Result.ok.injEq] at this
    exact ⟨this.1.1.symm, this.1.2.symm, this.2.symm, fn, rfl⟩
theorem callFunc_halt (hT : Twin T F1 F2 special) {g : FuncId} {args : Array Value} {v v' : World} {es es' : Array Event} {x : Halt} (h : (callFunc g args).runT (Program.mk T F1) v es = (.halt x v', es')) : ∃ y, x = .stuck y := by
  simp only [callFunc, program, bind, Sem.bind, Sem.runT] at h
  cases hf : F1[g]? with
  | none =>
    rw [show (Program.mk T F1).funcs[g]? = none from hf] at h
    simp only [stuck, Sem.runT, Prod.mk.injEq, Result.halt.injEq] at h
    exact ⟨_, h.1.1.symm⟩
  | some fn =>
    rw [show (Program.mk T F1).funcs[g]? = some fn from hf] at h
    obtain ⟨hname, c, hb, _⟩ := hT.fns g fn hf
    simp only [hname, hb, Option.isNone_some, Bool.false_eq_true, if_false] at h
    have : (Result.ok (Next.enter g args) v, es) = (Result.halt x v', es') := h
    simp at this
theorem callFunc_p {g : FuncId} {args : Array Value} {fn : Func} (hf : F2[g]? = some fn) (hname : (fn.name == "runtime.NumGoroutine") = false) {c : Code} (hb : fn.body = some c) (w : World) (es : Array Event) :
    (callFunc g args).runT (Program.mk T F2) w es = (.ok (.enter g args) w, es) := by
  simp only [callFunc, program, bind, Sem.bind, Sem.runT]
  rw [show (Program.mk T F2).funcs[g]? = some fn from hf]
  simp only [hname, hb, Option.isNone_some, Bool.false_eq_true, if_false]
  rfl

theorem yield_not {l : Nat} {args : Array Value} {v : World} (hl : NoLoop v) {es es' : Array Event} {r : Result Next} (h : (Instr.yield l args).runT (Program.mk T F1) v es = (r, es')) : ∃ y w, r = .halt (.stuck y) w := by
  have e : Instr.yield l args = Sem.getObj l fun o => (match o with | .loop r => pure r | _ => stuck "range over a function: no such loop" : Sem Loop).bind fun r => (if args.size ≠ r.params.size then (do let z : PUnit ← stuck "yield: the wrong number of arguments"; pure (.round l r.fn ((r.params.zip args).foldl (fun tmps (t, a) => tmps.setIfInBounds t a) r.tmps) r.assign r.body)) else pure (.round l r.fn ((r.params.zip args).foldl (fun tmps (t, a) => tmps.setIfInBounds t a) r.tmps) r.assign r.body) : Sem Next) := by
    rfl
  rw [e] at h
  simp only [Sem.runT] at h
  cases ho : v.heap[l]? with
  | none =>
    rw [ho] at h
    simp only [Prod.mk.injEq] at h
    exact ⟨_, _, h.1.symm⟩
  | some o =>
    rw [ho] at h
    have hno := hl l o ho
    cases o with
    | cells c e f => simp only [Prod.mk.injEq] at h; exact ⟨_, _, h.1.symm⟩
    | loop l => exact hno.elim
    | _ =>
      simp only [stuck, Sem.bind, Sem.runT, Prod.mk.injEq] at h
      exact ⟨_, _, h.1.symm⟩
/-! ### one operation -/
theorem wanted_some {ops : Array Oper} {i : Nat} {t : Array Value} (h : ((ops[i]?).map (Region.wanted · (yielded ops t))).getD false = true) : ∃ o, ops[i]? = some o := by
  cases ho : ops[i]? with
  | none => rw [ho] at h; cases h
  | some o => exact ⟨o, rfl⟩

theorem ran_bind {α β : Type} {s : Sem α} {f : α → Sem β} {p : Program} {w w' : World} {a : α} {es es' : Array Event} (h : s.runT p w es = (.ok a w', es')) : (s >>= f).runT p w es = (f a).runT p w' es' := by
  show (s.bind f).runT p w es = _
  rw [Sem.runT_bind', h]

/-- A step that carries out an operation. -/
theorem turn_op (hT : Twin T F1 F2 special) {fr : Frame} {ops : Array Oper} {i : Nat} {r : List Nat} {k : List Item} (hn : Nice T F1 F2 fr) (hm : fr.mode = .run) (ht : fr.todo = .inRegion ops (i :: r) :: k) {v : World} (hl : NoLoop v)
    {o : Oper} (ho : ops[i]? = some o) (hs : ∀ (p : Program) w l, stepG p true (G fr l) w = stepG.apply p true fr l none (execOp fr.eval o) w) : Turn (T := T) (F1 := F1) (F2 := F2) special fr v := by
  have hok : okOp (Program.mk T F1) o = true := by
    have := hn.todo (.inRegion ops (i :: r)) (by rw [ht]; simp)
    simp only [itemOk, List.all_eq_true] at this
    exact this o (by simpa using Array.mem_of_getElem? ho)
  have hfin : ∀ u, Nice T F1 F2 (fr.finish u) ∧ (fr.finish u).mode = .run := fun u => by
    have e : fr.finish u = { fr with tmps := match (ops[i]?).bind (·.dst) with | some d => fr.tmps.setIfInBounds d u | none => fr.tmps, todo := .inRegion ops r :: k } := by
      unfold Frame.finish; rw [ht]; rfl
    rw [e]
    refine ⟨⟨hn.defers, hn.round, hn.kind, hn.fine, fun it hit => ?_⟩, hm⟩
    simp only [List.mem_cons] at hit
    rcases hit with rfl | hit
    · exact hn.todo (.inRegion ops (i :: r)) (by rw [ht]; simp)
    · exact hn.todo it (by rw [ht]; exact List.mem_cons_of_mem _ hit)
  have stuck_ : ∀ {y w' es}, (execOp fr.eval o).runT (Program.mk T F1) v #[] = (.halt (.stuck y) w', es) → Turn (T := T) (F1 := F1) (F2 := F2) special fr v := fun h =>
    .stop fun l => by rw [hs]; exact apply_stuck h
  have unsup : ∀ {y w' es}, (execOp fr.eval o).runT (Program.mk T F1) v #[] = (.halt (.unsupported y) w', es) → Turn (T := T) (F1 := F1) (F2 := F2) special fr v := fun h =>
    .stop fun l => by rw [hs]; exact apply_unsupported hT.ahead hT.step h
  have pan : ∀ {y w' es}, (execOp fr.eval o).runT (Program.mk T F1) v #[] = (.halt (.panic y) w', es) → Turn (T := T) (F1 := F1) (F2 := F2) special fr v := fun {y w' es} h =>
    .raise [{ v := y, recovered := false }] w' (seen (Program.mk T F1) fr.fn es) fun l => by rw [hs, apply_panic hn.kind h]; simp [Frame.raise, hm]
  cases hc : isCall o with
  | false =>
    have hTm : Tame (Program.mk T F1) (Program.mk T F2) (execOp fr.eval o) := tm_op _ hok hc
    generalize hr : (execOp fr.eval o).runT (Program.mk T F1) v #[] = res at *
    obtain ⟨res, es⟩ := res
    cases res with
    | ok x v' =>
      have hran : Ran (T := T) (F1 := F1) (F2 := F2) (execOp fr.eval o) v x v' es := Ran.tame hTm hl hr
      rcases op_shape fr.eval hok hc hr with ⟨u, rfl⟩ | rfl
      · obtain ⟨es', hM⟩ := apply_run hn.fine hran (G (fr.finish u)) (G (fr.finish u)) (fun w w' es l h => apply_value hn.kind h) (fun w w' es l h => apply_value hn.kind h) hs
        exact .on _ v' es' (hfin u).1 (.inl (hfin u).2) (finish_fn fr u) hM
      · obtain ⟨es', hM⟩ := apply_run hn.fine hran (G (fr.finish undef)) (G (fr.finish undef)) (fun w w' es l h => apply_skip hn.kind h) (fun w w' es l h => apply_skip hn.kind h) hs
        exact .on _ v' es' (hfin undef).1 (.inl (hfin undef).2) (finish_fn fr undef) hM
    | halt x v' =>
      rcases tame_halt hTm hr with ⟨y, rfl⟩ | ⟨y, rfl⟩ | ⟨y, rfl⟩
      · exact pan rfl
      · exact stuck_ rfl
      · exact unsup rfl
  | true =>
    obtain ⟨dst, op, type, pos, after, guard⟩ := o
    cases op with
    | call c =>
      obtain ⟨callee, as, ats⟩ := c
      cases callee with
      | value f =>
        have ee : execOp fr.eval { dst, op := .call { callee := .value f, args := as, argTypes := ats }, type, pos, after, guard } = (do let d ← Deferred.ofValue (fr.eval f) (as.map fr.eval); invoke d.target d.args) := rfl
        rw [ee] at stuck_ unsup pan hs
        rcases call_split (T := T) (F1 := F1) (F2 := F2) (fr.eval f) (as.map fr.eval) with ⟨l, first, cap, e⟩ | ⟨pre, hp, e⟩
        · rw [e] at stuck_
          generalize hr : (do let d ← Deferred.ofValue (.func (.yield l) first cap) (as.map fr.eval); invoke d.target d.args : Sem Next).runT (Program.mk T F1) v #[] = res at *
          obtain ⟨res, es⟩ := res
          obtain ⟨y, w, rfl⟩ := yield_not hl (show (Instr.yield l (first ++ as.map fr.eval)).runT (Program.mk T F1) v #[] = (res, es) from hr)
          exact stuck_ rfl
        · rw [e] at stuck_ unsup pan hs
          generalize hr : pre.runT (Program.mk T F1) v #[] = res
          obtain ⟨res, es⟩ := res
          cases res with
          | halt x v' =>
            have hb : (pre >>= fun y => callFunc y.1 y.2).runT (Program.mk T F1) v #[] = (.halt x v', es) := by
              show (pre.bind _).runT (Program.mk T F1) v #[] = _
              rw [Sem.runT_bind', hr]
            rcases tame_halt hp hr with ⟨y, rfl⟩ | ⟨y, rfl⟩ | ⟨y, rfl⟩
            · exact pan hb
            · exact stuck_ hb
            · exact unsup hb
          | ok y v1 =>
            obtain ⟨g, gargs⟩ := y
            have hran := Ran.tame (T := T) (F1 := F1) (F2 := F2) hp hl hr
            have hb := ran_bind (f := fun y => callFunc y.1 y.2) hr
            generalize hr2 : (callFunc g gargs).runT (Program.mk T F1) v1 es = res2
            obtain ⟨res2, es2⟩ := res2
            cases res2 with
            | halt x v2 =>
              obtain ⟨y, rfl⟩ := callFunc_halt hT hr2
              exact stuck_ (hb.trans hr2)
            | ok x v2 =>
              obtain ⟨rfl, rfl, rfl, fn, hF⟩ := callFunc_run hT hr2
              obtain ⟨hname, c, hbody, fn2, hF2, hname2, hcase⟩ := hT.fns g fn hF
              have hbind : (F1[g]?).bind (·.body) = some c := by rw [hF]; exact hbody
              have hrun : ∀ (w w' : World) (es : Array Event) l, (pre >>= fun y => callFunc y.1 y.2).runT (Program.mk T F1) w #[] = (.ok (.enter g gargs) w', es) → stepG.apply (Program.mk T F1) true fr l none (pre >>= fun y => callFunc y.1 y.2) w = .go (G (Frame.enter (Program.mk T F1) g gargs .normal) (fr :: l)) w' (seen (Program.mk T F1) fr.fn es) := fun w w' es l h => apply_enter hn.kind ht h
              have hq2 : (pre >>= fun y => callFunc y.1 y.2).runT (Program.mk T F1) v #[] = (.ok (.enter g gargs) v2, es2) := hb.trans hr2
              by_cases href : ∃ why, c = .refuse why
              · obtain ⟨why, rfl⟩ := href
                exact .refuse g gargs v2 (seen (Program.mk T F1) fr.fn es2) why hbind fun l => by rw [hs, hrun _ _ _ _ hq2]
              · have hcase' : special g ∨ (fn2 = fn ∧ codeOk (Program.mk T F1) c = true) := hcase.resolve_left href
                have hb2 : ∃ c2, fn2.body = some c2 := by
                  rcases hcase' with h | ⟨rfl, _⟩
                  · exact hT.own g fn fn2 hF hF2 h
                  · exact ⟨c, hbody⟩
                obtain ⟨c2, hb2⟩ := hb2
                have hran2 : Ran (T := T) (F1 := F1) (F2 := F2) (pre >>= fun y => callFunc y.1 y.2) v (.enter g gargs) v2 es2 := by
                  refine ⟨hq2, fun Lo w hw => ?_, hran.after, hran.noLoop, hran.tape, hran.drawn, fun T' d' htt => ?_⟩
                  · obtain ⟨w', h1, h2⟩ := hran.p Lo w hw
                    exact ⟨w', (ran_bind h1).trans (callFunc_p hF2 hname2 hb2 _ _), h2⟩
                  · refine (ran_bind (hran.local_ T' d' htt)).trans ?_
                    simp only [callFunc, program, bind, Sem.bind, Sem.runT]
                    rw [show (Program.mk T F1).funcs[g]? = some fn from hF]
                    simp only [hname, hbody, Option.isNone_some, Bool.false_eq_true, if_false]
                    rfl
                obtain ⟨es', hM⟩ := apply_run hn.fine hran2 (fun l => G (Frame.enter (Program.mk T F1) g gargs .normal) (fr :: l)) (fun l => G (Frame.enter (Program.mk T F2) g gargs .normal) (fr :: l)) hrun (fun w w' es l h => apply_enter hn.kind ht h) hs
                refine .enter g gargs v2 es' ⟨c, hbind, fun why e => href ⟨why, e⟩, ?_⟩ ?_ hM
                · rcases hcase' with h | ⟨_, h⟩
                  · exact .inr h
                  · exact .inl h
                · rcases hcase' with h | ⟨rfl, _⟩
                  · exact .inl h
                  · exact .inr ⟨fn2, hF, hF2⟩
      | invoke a b => cases hc
      | builtin b => cases hc
    | _ => cases hc
/-! ### every step -/
theorem Nice.with_todo {fr : Frame} (hn : Nice T F1 F2 fr) {todo : List Item} (h : ∀ it ∈ todo, itemOk (Program.mk T F1) it = true) : Nice T F1 F2 { fr with todo := todo } := ⟨hn.defers, hn.round, hn.kind, hn.fine, h⟩

theorem turn_run (hT : Twin T F1 F2 special) {fr : Frame} (hn : Nice T F1 F2 fr) (hm : fr.mode = .run) {v : World} (hl : NoLoop v) : Turn (T := T) (F1 := F1) (F2 := F2) special fr v := by
  have to : ∀ (todo : List Item), (∀ it ∈ todo, itemOk (Program.mk T F1) it = true) → (∀ (p : Program) (w : World) l, stepG p true (G fr l) w = .go (G { fr with todo := todo } l) w) → Turn (T := T) (F1 := F1) (F2 := F2) special fr v := fun todo h1 h2 =>
    .on { fr with todo := todo } v #[] (hn.with_todo h1) (.inl hm) rfl (Matches.ctl hl h2)
  have leaves : (∀ (p : Program) (w : World) l, stepG p true (G fr l) w = .go (G { fr with mode := .returning } l) w) → Turn (T := T) (F1 := F1) (F2 := F2) special fr v := fun h2 =>
    .on { fr with mode := .returning } v #[] ⟨hn.defers, hn.round, hn.kind, hn.fine, hn.todo⟩ (.inr rfl) rfl (Matches.ctl hl h2)
  have stop : (∀ l, ∃ o w es, stepG (Program.mk T F1) true (G fr l) v = .ended o w es) → Turn (T := T) (F1 := F1) (F2 := F2) special fr v := fun h => .stop h
  have htodo := hn.todo
  obtain ⟨fn, tmps, todo, defers, mode, kind, roundOf⟩ := fr
  obtain ⟨rfl, rfl, rfl, hfine, _⟩ := (show defers = [] ∧ roundOf = none ∧ kind = .normal ∧ Fine T F1 F2 fn ∧ True from ⟨hn.defers, hn.round, hn.kind, hn.fine, trivial⟩)
  simp only at hm
  subst hm
  simp only at htodo to leaves stop
  cases todo with
  | nil => exact leaves fun p w l => by simp [G, stepG, stepG.exec]
  | cons it k =>
    have hk : ∀ x ∈ k, itemOk (Program.mk T F1) x = true := fun x hx => htodo x (List.mem_cons_of_mem _ hx)
    have hit := htodo it (by simp)
    have hcons : ∀ {x : Item} {m : List Item}, itemOk (Program.mk T F1) x = true → (∀ y ∈ m, itemOk (Program.mk T F1) y = true) → ∀ y ∈ x :: m, itemOk (Program.mk T F1) y = true := fun hx hm y hy => by
      simp only [List.mem_cons] at hy
      rcases hy with rfl | hy
      · exact hx
      · exact hm y hy
    cases it with
    | inBlock id => exact to k hk fun p w l => by simp [G, stepG, stepG.exec]
    | inScope c => exact to k hk fun p w l => by simp [G, stepG, stepG.exec]
    | inLoop c => exact to (.code c :: .inLoop c :: k) (hcons hit (hcons hit hk)) fun p w l => by simp [G, stepG, stepG.exec]
    | inRangeFunc l => cases hit
    | endRangeFunc l => cases hit
    | beginRound => cases hit
    | call d w r s => cases hit
    | extern r a => cases hit
    | inRegion ops todo =>
      cases todo with
      | nil => exact to k hk fun p w l => by simp [G, stepG, stepG.exec]
      | cons i r =>
        by_cases hw : ((ops[i]?).map (Region.wanted · (yielded ops tmps))).getD false = true
        · obtain ⟨o, ho⟩ := wanted_some hw
          have hw' := hw
          rw [ho] at hw'
          exact turn_op hT hn rfl rfl hl ho fun p w l => by
            have : Region.wanted o (yielded ops tmps) = true := hw'
            simp [G, stepG, stepG.exec, stepG.oper, Frame.oper?, ho, this]
        · have hw' : ((ops[i]?).map (Region.wanted · (yielded ops tmps))).getD false = false := by simpa using hw
          refine .on { fn, tmps := (match (ops[i]?).bind (·.dst) with | some d => tmps.setIfInBounds d undef | none => tmps), todo := .inRegion ops r :: k, defers := [], mode := .run, kind := .normal, roundOf := none } v #[]
            ⟨rfl, rfl, rfl, hfine, hcons hit hk⟩ (.inl rfl) rfl (Matches.ctl hl fun p w l => ?_)
          simp [G, stepG, stepG.exec, hw', Frame.finish]
          rfl
    | code c =>
      cases c with
      | skip => exact to k hk fun p w l => by simp [G, stepG, stepG.exec]
      | label n => exact to k hk fun p w l => by simp [G, stepG, stepG.exec]
      | ret => exact leaves fun p w l => by simp [G, stepG, stepG.exec]
      | refuse why => exact stop fun l => ⟨_, _, _, by simp [G, stepG, stepG.exec]; exact ⟨rfl, rfl, rfl⟩⟩
      | seq a b =>
        simp only [itemOk, codeOk, Bool.and_eq_true] at hit
        exact to (.code a :: .code b :: k) (hcons hit.1 (hcons hit.2 hk)) fun p w l => by simp [G, stepG, stepG.exec]
      | block id b => exact to (.code b :: .inBlock id :: k) (hcons hit (hcons rfl hk)) fun p w l => by simp [G, stepG, stepG.exec]
      | loop b => exact to (.code b :: .inLoop b :: k) (hcons hit (hcons hit hk)) fun p w l => by simp [G, stepG, stepG.exec]
      | scope b => exact to (.code b :: .inScope b :: k) (hcons hit (hcons hit hk)) fun p w l => by simp [G, stepG, stepG.exec]
      | rangeFunc f ps a b => cases hit
      | exit id =>
        cases he : exitTo id k with
        | some k' => exact to k' (exitTo_ok he hk) fun p w l => by simp [G, stepG, stepG.exec, he]
        | none => exact stop fun l => ⟨_, _, _, by simp [G, stepG, stepG.exec, he]; exact ⟨rfl, rfl, rfl⟩⟩
      | goto n =>
        cases he : gotoIn n k with
        | some k' => exact to k' (gotoIn_ok he hk) fun p w l => by simp [G, stepG, stepG.exec, he]
        | none => exact stop fun l => ⟨_, _, _, by simp [G, stepG, stepG.exec, he]; exact ⟨rfl, rfl, rfl⟩⟩
      | cond c a b =>
        simp only [itemOk, codeOk, Bool.and_eq_true] at hit
        have nob : (∀ t, Frame.eval { fn, tmps, todo := .code (.cond c a b) :: k, defers := [], mode := .run, kind := .normal, roundOf := none } c ≠ .bool t) → Turn (T := T) (F1 := F1) (F2 := F2) special { fn, tmps, todo := .code (.cond c a b) :: k, defers := [], mode := .run, kind := .normal, roundOf := none } v := fun h => by
          refine .stop fun l => ?_
          simp only [G, stepG, stepG.exec]
          first
            | exact ⟨_, _, _, rfl⟩
            | (split
               · rename_i t ht; exact absurd ht (h t)
               · exact ⟨_, _, _, rfl⟩)
        cases he : Frame.eval { fn, tmps, todo := .code (.cond c a b) :: k, defers := [], mode := .run, kind := .normal, roundOf := none } c with
        | bool t =>
          refine to (.code (if t then a else b) :: k) (hcons (by cases t <;> simp [itemOk, hit.1, hit.2]) hk) fun p w l => ?_
          simp [G, stepG, stepG.exec, he]
        | _ => exact nob fun t => by rw [he]; simp
      | region id ops draw =>
        cases draw with
        | false => exact to (.inRegion ops (List.range ops.size) :: k) (hcons hit hk) fun p w l => by simp [G, stepG, stepG.exec]
        | true =>
          refine .on { fn, tmps, todo := .inRegion ops (Region.schedule (Tables.follows T .mixedOrders) ops (v.tape v.drawn (.order fn id))) :: k, defers := [], mode := .run, kind := .normal, roundOf := none } { v with drawn := v.drawn + 1 } #[]
            ⟨rfl, rfl, rfl, hfine, hcons hit hk⟩ (.inl rfl) rfl ⟨fun l => ?_, fun _ w hw => ⟨{ w with drawn := w.drawn + 1 }, hw.draw, fun l => ?_⟩, Nat.le_refl _, hl, fun _ h => h, by simp, rfl, by simp, fun T' d' htt l => ?_⟩
          · simp [G, stepG, stepG.exec, choose, Sem.run, Question.forced, Question.cut]
          · rw [hw.tape, hw.drawn]
            simp [G, stepG, stepG.exec, choose, Sem.run, Question.forced, Question.cut]
          · have e0 : T' d' = v.tape v.drawn := by simpa using htt 0 (by simp)
            simp [G, stepG, stepG.exec, choose, Sem.run, Question.forced, Question.cut, World.retape, e0]
/-! ### a return -/
theorem tm_results (fn : Func) (tmps : Array Value) : Tame (Program.mk T F1) (Program.mk T F2) (results fn tmps) := by
  refine Tame.bind (tm_mapM (fun r => ?_) _) fun vs => Tame.pure' _
  cases r with
  | tmp t => exact Tame.pure' _
  | cell a t => exact Tame.bind (tm_asAddr _) fun _ => tm_loadVar _ _

theorem unwind_ok {p : Program} {fr : Frame} (hd : fr.defers = []) (hk : fr.kind = .normal) (hm : fr.mode = .returning) {fn : Func} (hf : p.funcs[fr.fn]? = some fn) {w w' : World} {u : Value} {es : Array Event} (h : (results fn fr.tmps).runT p w #[] = (.ok u w', es)) (c : Frame) (l : List Frame) :
    stepG p true (G fr (c :: l)) w = .go (G (c.finish u) l) w' (seen p fr.fn es) := by
  simp [G, stepG, hm, unwind, hd, hf, h, doReturn, hk, GStep.after, -Sem.runT_eq]
theorem unwind_stop {p : Program} {fr : Frame} (hd : fr.defers = []) (hk : fr.kind = .normal) (hm : fr.mode = .returning) {fn : Func} (hf : p.funcs[fr.fn]? = some fn) {w w' : World} {x : Halt} {es : Array Event} (h : (results fn fr.tmps).runT p w #[] = (.halt x w', es)) (l : List Frame) :
    ∃ o w₁ e, stepG p true (G fr l) w = .ended o w₁ e := by
  cases x <;> simp [G, stepG, hm, unwind, hd, hf, h, doReturn, hk, GStep.after, -Sem.runT_eq]

inductive Back (fr : Frame) (v : World) : Prop
  | back (u : Value) (v' : World) (es : Array Event) : (∀ c, Matches (T := T) (F1 := F1) (F2 := F2) (fun l => G fr (c :: l)) v (fun l => G (c.finish u) l) (fun l => G (c.finish u) l) v' es) →
      (∃ fn, F1[fr.fn]? = some fn ∧ F2[fr.fn]? = some fn ∧ ∃ es0, Ran (T := T) (F1 := F1) (F2 := F2) (results fn fr.tmps) v u v' es0) → Back fr v
  | stop : (∀ l, ∃ o w es, stepG (Program.mk T F1) true (G fr l) v = .ended o w es) → Back fr v

theorem turn_back {fr : Frame} (hn : Nice T F1 F2 fr) (hm : fr.mode = .returning) {v : World} (hl : NoLoop v) : Back (T := T) (F1 := F1) (F2 := F2) fr v := by
  obtain ⟨fn, f1, f2⟩ := hn.fine
  generalize hr : (results fn fr.tmps).runT (Program.mk T F1) v #[] = res
  obtain ⟨res, es⟩ := res
  cases res with
  | halt x v' => exact .stop fun l => unwind_stop hn.defers hn.kind hm f1 hr _
  | ok u v' =>
    have h : Ran (T := T) (F1 := F1) (F2 := F2) (results fn fr.tmps) v u v' es := Ran.tame (tm_results fn fr.tmps) hl hr
    have hnx : ∀ e ∈ es, ∀ f, e.loc ≠ .mark (.extern f) := fun e he => plain_noExtern ((h.after.fine e he).resolve_left (by simp))
    have hsn : seen (Program.mk T F2) fr.fn es = seen (Program.mk T F1) fr.fn es := seen_fine (by show (F2[fr.fn]?).any _ = (F1[fr.fn]?).any _; rw [f1, f2]) hnx
    refine .back u v' (seen (Program.mk T F1) fr.fn es) (fun c => ⟨fun l => unwind_ok hn.defers hn.kind hm f1 h.q c l, fun Lo w hw => ?_, h.after.size, h.noLoop, h.after.blind, fun e he => (h.after.fine e (mem_seen he)).resolve_left (by simp), h.tape, h.drawn, fun T' d' htt l => unwind_ok hn.defers hn.kind hm f1 (h.local_ T' d' htt) c l⟩) ⟨fn, f1, f2, es, h⟩
    obtain ⟨w', h1, hv'⟩ := h.p Lo w hw
    exact ⟨w', hv', fun l => by rw [unwind_ok hn.defers hn.kind hm f2 h1 c l, hsn]⟩
end
end Go.Veiled

namespace Go.Veiled
set_option linter.unusedSimpArgs false
set_option linter.unusedSectionVars false
set_option linter.unusedVariables false
open Go.Conc

/-- The frame at the bottom: a panic that comes to it ends the run. -/
def bottom : Frame := { (default : Frame) with todo := [.code (.refuse "the end")], mode := .run, defers := [{ target := .nil, args := #[] }] }

/-- Where a goroutine stands: its frame, those that wait, the world. -/
structure St where
  fr : Frame
  l : List Frame
  v : World
def St.g (s : St) : Goroutine := G s.fr (s.l ++ [bottom])
def St.done (s : St) : Prop := s.fr.mode = .returning ∧ s.l = []

theorem step_solo_of {p : Program} {a : Goroutine} {w : World} (hs : a.status = .running) {o : Outcome} {w' : World} {es : Array Event} (h : stepG p true a w = .ended o w' es) : ∃ o' w'', step p (solo a w) = .ended o' w'' := by
  rw [step, stepT_solo hs]
  refine ⟨o, w', ?_⟩
  simp [runT, solo, Array.swapAt!, Array.swapAt, h]

theorem runN_succ (p : Program) (n : Nat) (m : Machine) : runN p (n + 1) m = match step p m with | .next m' => runN p n m' | e => e := rfl
theorem runN_ended {p : Program} {m : Machine} {o : Outcome} {w : World} (h : step p m = .ended o w) {n : Nat} {m' : Machine} : runN p (n + 1) m ≠ .next m' := by
  rw [runN_succ, h]; simp

section
variable {T : Tables} {F1 : Array Func}

theorem Nice.finish {F2 : Array Func} {fr : Frame} (h : Nice T F1 F2 fr) (u : Value) : Nice T F1 F2 (fr.finish u) ∧ (fr.finish u).mode = fr.mode := by
  obtain ⟨fn, tmps, todo, defers, mode, kind, roundOf⟩ := fr
  obtain ⟨h1, h2, h3, h4, h5⟩ := h
  simp only at h1 h2 h3 h4 h5
  unfold Frame.finish
  dsimp only
  split
  · rename_i ops i r k
    refine ⟨⟨h1, h2, h3, h4, fun it hit => ?_⟩, rfl⟩
    simp only [List.mem_cons] at hit
    rcases hit with rfl | hit
    · exact h5 (.inRegion ops (i :: r)) (by simp)
    · exact h5 it (List.mem_cons_of_mem _ hit)
  · rename_i r k; cases h5 (.inRangeFunc r) (by simp)
  · rename_i k; cases h5 .beginRound (by simp)
  · rename_i a b c d k; cases h5 (.call a b c d) (by simp)
  · rename_i a b k; cases h5 (.extern a b) (by simp)
  · exact ⟨⟨h1, h2, h3, h4, h5⟩, rfl⟩

structure NiceSt (s : St) : Prop where
  fr : (Nice T F1 F1) s.fr
  mode : s.fr.mode = .run ∨ s.fr.mode = .returning
  l : ∀ x ∈ s.l, (Nice T F1 F1) x ∧ x.mode = .run
  noLoop : NoLoop s.v

/-- One step, on whichever tape it is taken. -/
structure Steps1 (s s' : St) (es : Array Event) (X : Nat → Question → Nat) (d : Nat) : Prop where
  nice : NiceSt (T := T) (F1 := F1) s'
  q : stepG (Program.mk T F1) true s.g (s.v.retape X d) = .go s'.g s'.v es
  drawn : d ≤ s'.v.drawn
  local_ : ∀ (X' : Nat → Question → Nat) (d' : Nat), (∀ i, i < s'.v.drawn - d → X' (d' + i) = X (d + i)) → stepG (Program.mk T F1) true s.g (s.v.retape X' d') = .go s'.g (s'.v.retape X' (d' + (s'.v.drawn - d))) es

/-- A lone run from here comes to no return. -/
def Lost (T : Tables) (F1 : Array Func) (m : Machine) : Prop := ∀ (N : Nat) (fr : Frame) (l : List Frame) (v : World), runN (Program.mk T F1) N m = .next (solo (G fr (l ++ [bottom])) v) → fr.mode ≠ .returning

theorem lost_ended {m : Machine} (h0 : ∀ fr l v, m = solo (G fr (l ++ [bottom])) v → fr.mode ≠ .returning) (h : ∃ o w, step (Program.mk T F1) m = .ended o w) : Lost T F1 m := by
  intro N fr l v hr
  obtain ⟨o, w, h⟩ := h
  cases N with
  | zero =>
    simp only [runN, Stepped.next.injEq] at hr
    exact h0 fr l v hr
  | succ n => exact absurd hr (runN_ended h)
theorem lost_step {m m' : Machine} (h0 : ∀ fr l v, m = solo (G fr (l ++ [bottom])) v → fr.mode ≠ .returning) (h : step (Program.mk T F1) m = .next m') (hl : Lost T F1 m') : Lost T F1 m := by
  intro N fr l v hr
  cases N with
  | zero =>
    simp only [runN, Stepped.next.injEq] at hr
    exact h0 fr l v hr
  | succ n =>
    rw [runN_succ, h] at hr
    exact hl n fr l v hr

theorem solo_inj {a b : Goroutine} {v w : World} (h : solo a v = solo b w) : a = b ∧ v = w := by
  simp only [solo, Machine.mk.injEq] at h
  refine ⟨?_, h.1⟩
  have := h.2.1
  simpa using this

/-- A panic goes down to the bottom, and the run ends there. -/
theorem lost_panic {F2 : Array Func} : ∀ (l : List Frame) (fr : Frame) (chain : List PanicEntry) (v : World), (∀ x ∈ l, Nice T F1 F2 x ∧ x.mode = .run) → fr.defers = [] → Fine T F1 F2 fr.fn → fr.mode = .panicking chain →
    Lost T F1 (solo (G fr (l ++ [bottom])) v) := by
  intro l
  induction l with
  | nil =>
    intro fr chain v _ hd hf hm
    obtain ⟨fn, f1, _⟩ := hf
    have hc : fr.catches (Program.mk T F1) = false := by
      unfold Frame.catches
      rw [show (Program.mk T F1).funcs[fr.fn]? = some fn from f1]
    have h1 : stepG (Program.mk T F1) true (G fr ([] ++ [bottom])) v = .go (G (bottom.raise chain) []) v #[] := by
      simp [G, stepG, hm, unwind, hd, hc]
    refine lost_step (fun fr' l' v' e => ?_) (step_solo_go rfl h1) (lost_ended (fun fr' l' v' e => ?_) ?_)
    · obtain ⟨e1, _⟩ := solo_inj e
      simp only [G, Goroutine.mk.injEq] at e1
      rw [← e1.1, hm]; simp
    · obtain ⟨e1, _⟩ := solo_inj e
      simp only [G, Goroutine.mk.injEq] at e1
      have := congrArg List.length e1.2.1
      simp at this
    · have hend : ∃ o w es, stepG (Program.mk T F1) true (G (bottom.raise chain) []) v = .ended o w es := by
        have hb : (bottom.raise chain).mode = .panicking chain := by simp [Frame.raise, bottom, default, instInhabitedFrame.default, instInhabitedFrameMode.default]
        have hbd : (bottom.raise chain).defers = [{ target := .nil, args := #[] }] := by simp [Frame.raise, bottom, default, instInhabitedFrame.default, instInhabitedFrameMode.default]
        simp only [G, stepG, hb, unwind, hbd, callDeferred]
        simp only [Bool.and_self, if_true]
        exact ⟨_, _, _, rfl⟩
      obtain ⟨o, w, es, hend⟩ := hend
      exact step_solo_of rfl hend
  | cons c l ih =>
    intro fr chain v hl hd hf hm
    obtain ⟨fn, f1, _⟩ := hf
    have hc : fr.catches (Program.mk T F1) = false := by
      unfold Frame.catches
      rw [show (Program.mk T F1).funcs[fr.fn]? = some fn from f1]
    obtain ⟨hcn, hcm⟩ := hl c (by simp)
    have h1 : stepG (Program.mk T F1) true (G fr ((c :: l) ++ [bottom])) v = .go (G (c.raise chain) (l ++ [bottom])) v #[] := by
      simp [G, stepG, hm, unwind, hd, hc]
    have hr : c.raise chain = { c with mode := .panicking chain } := by simp [Frame.raise, hcm]
    refine lost_step (fun fr' l' v' e => ?_) (step_solo_go rfl h1) ?_
    · obtain ⟨e1, _⟩ := solo_inj e
      simp only [G, Goroutine.mk.injEq] at e1
      rw [← e1.1, hm]; simp
    · rw [hr]
      exact ih { c with mode := .panicking chain } chain v (fun x hx => hl x (List.mem_cons_of_mem _ hx)) hcn.defers hcn.fine rfl
/-- Each step of a nice state: another nice state, wherever the tape says the same; or the run comes to no return. -/
theorem nice_step (hT : Twin T F1 F1 (fun _ => False)) {s : St} (hs : NiceSt (T := T) (F1 := F1) s) (hd : ¬ s.done) (X : Nat → Question → Nat) (d : Nat) :
    (∃ s' es, Steps1 (T := T) (F1 := F1) s s' es X d) ∨ (∀ (N : Nat) (fr : Frame) (l : List Frame) (v : World), runN (Program.mk T F1) (N + 1) (solo s.g (s.v.retape X d)) = .next (solo (G fr (l ++ [bottom])) v) → fr.mode ≠ .returning) := by
  obtain ⟨fr, l, v⟩ := s
  obtain ⟨hn, hm, hl, hnl⟩ := hs
  simp only at hn hm hl hnl
  have hnl' : NoLoop (v.retape X d) := hnl
  have bad : ∀ {m : Machine}, step (Program.mk T F1) (solo (St.g ⟨fr, l, v⟩) (v.retape X d)) = .next m → Lost T F1 m → ∀ (N : Nat) (fr' : Frame) (l' : List Frame) (v' : World), runN (Program.mk T F1) (N + 1) (solo (St.g ⟨fr, l, v⟩) (v.retape X d)) = .next (solo (G fr' (l' ++ [bottom])) v') → fr'.mode ≠ .returning := fun h1 h2 N fr' l' v' hr => by
    rw [runN_succ, h1] at hr
    exact h2 N fr' l' v' hr
  rcases hm with hm | hm
  · cases turn_run hT hn hm hnl' with
    | on fr' v' es h1 h2 _ hM =>
      refine .inl ⟨⟨fr', l, v'⟩, es, ⟨h1, h2, hl, hM.noLoop⟩, hM.q _, hM.drawn, fun X' d' htt => ?_⟩
      exact hM.local_ X' d' htt _
    | enter f args v' es hf _ hM =>
      obtain ⟨c, hc, hne, hok⟩ := hf
      have hok : codeOk (Program.mk T F1) c = true := hok.resolve_right id
      cases hF : F1[f]? with
      | none => rw [hF] at hc; cases hc
      | some fn =>
        rw [hF] at hc
        have hb : fn.body = some c := hc
        have htodo : (Frame.enter (Program.mk T F1) f args .normal).todo = [.code c] := by
          simp [Frame.enter, hF, hb]
        refine .inl ⟨⟨Frame.enter (Program.mk T F1) f args .normal, fr :: l, v'⟩, es, ⟨⟨rfl, rfl, rfl, ⟨fn, hF, hF⟩, ?_⟩, .inl rfl, ?_, hM.noLoop⟩, hM.q _, hM.drawn, fun X' d' htt => ?_⟩
        · intro it hit
          simp only [htodo, List.mem_singleton] at hit
          subst hit
          exact hok
        · intro x hx
          simp only [List.mem_cons] at hx
          rcases hx with rfl | hx
          · exact ⟨hn, hm⟩
          · exact hl x hx
        · exact hM.local_ X' d' htt _
    | refuse f args v' es why hf hq =>
      refine .inr (bad (step_solo_go rfl (hq _)) (lost_ended (fun fr' l' v' e => ?_) ?_))
      · obtain ⟨e1, _⟩ := solo_inj e
        simp only [G, Goroutine.mk.injEq] at e1
        rw [← e1.1]; simp [Frame.enter]
      · cases hF : F1[f]? with
        | none => rw [hF] at hf; cases hf
        | some fn =>
          rw [hF] at hf
          have hb : fn.body = some (.refuse why) := hf
          have hend : ∀ k, ∃ o w es, stepG (Program.mk T F1) true (G (Frame.enter (Program.mk T F1) f args .normal) k) v' = .ended o w es := fun k => by
            simp only [G, Frame.enter, hF, hb, Option.bind_some, Option.getD_some, stepG, stepG.exec]
            exact ⟨_, _, _, rfl⟩
          obtain ⟨o, w, es', h⟩ := hend (fr :: (l ++ [bottom]))
          exact step_solo_of rfl h
    | raise chain v' es hq => exact .inr (bad (step_solo_go rfl (hq _)) (lost_panic l _ chain v' hl hn.defers hn.fine rfl))
    | stop hq =>
      right
      obtain ⟨o, w, es, h⟩ := hq (l ++ [bottom])
      intro N fr' l' v' hr
      obtain ⟨o', w', h'⟩ := step_solo_of (a := G fr (l ++ [bottom])) rfl h
      exact absurd hr (runN_ended h')
  · cases l with
    | nil => exact absurd ⟨hm, rfl⟩ hd
    | cons c l =>
      cases turn_back hn hm hnl' with
      | stop hq =>
        right
        obtain ⟨o, w, es, h⟩ := hq (c :: l ++ [bottom])
        intro N fr' l' v' hr
        obtain ⟨o', w', h'⟩ := step_solo_of (a := G fr (c :: l ++ [bottom])) rfl h
        exact absurd hr (runN_ended h')
      | back u v' es hM _ =>
        obtain ⟨hc, hcm⟩ := hl c (by simp)
        obtain ⟨hf1, hf2⟩ := hc.finish u
        refine .inl ⟨⟨c.finish u, l, v'⟩, es, ⟨hf1, .inl (hf2.trans hcm), fun x hx => hl x (List.mem_cons_of_mem _ hx), (hM c).noLoop⟩, (hM c).q _, (hM c).drawn, fun X' d' htt => (hM c).local_ X' d' htt _⟩
/-! ### well founded -/
theorem not_acc {α : Type} {r : α → α → Prop} {a : α} (h : ¬ Acc r a) : ∃ f : Nat → α, f 0 = a ∧ ∀ n, r (f (n + 1)) (f n) := by
  have next : ∀ x : { x // ¬ Acc r x }, ∃ y : { x // ¬ Acc r x }, r y.1 x.1 := by
    rintro ⟨x, hx⟩
    apply Classical.byContradiction
    intro hn
    refine hx ⟨x, fun y hy => ?_⟩
    apply Classical.byContradiction
    intro hy'
    exact hn ⟨⟨y, hy'⟩, hy⟩
  let g : Nat → { x // ¬ Acc r x } := fun n => Nat.rec ⟨a, h⟩ (fun _ x => Classical.choose (next x)) n
  exact ⟨fun n => (g n).1, rfl, fun n => Classical.choose_spec (next (g n))⟩

def Succ (T : Tables) (F1 : Array Func) (s' s : St) : Prop := NiceSt (T := T) (F1 := F1) s ∧ ¬ s.done ∧ ∃ es X d, Steps1 (T := T) (F1 := F1) s s' es X d

/-- Where the n-th stretch of a tape begins. -/
def startsAt (m : Nat → Nat) : Nat → Nat
  | 0 => 0
  | n + 1 => startsAt m n + m n
theorem startsAt_mono (m : Nat → Nat) {a b : Nat} (h : a ≤ b) : startsAt m a ≤ startsAt m b := by
  induction h with
  | refl => exact Nat.le_refl _
  | step _ ih => exact Nat.le_trans ih (Nat.le_add_right _ _)
open Classical in
/-- One tape out of stretches. -/
noncomputable def joined (m d : Nat → Nat) (X : Nat → Nat → Question → Nat) (j : Nat) : Question → Nat :=
  if h : ∃ n, startsAt m n ≤ j ∧ j < startsAt m n + m n then X (Classical.choose h) (d (Classical.choose h) + (j - startsAt m (Classical.choose h))) else fun _ => 0
theorem joined_at (m d : Nat → Nat) (X : Nat → Nat → Question → Nat) (n i : Nat) (hi : i < m n) : joined m d X (startsAt m n + i) = X n (d n + i) := by
  have h : ∃ k, startsAt m k ≤ startsAt m n + i ∧ startsAt m n + i < startsAt m k + m k := ⟨n, Nat.le_add_right _ _, by omega⟩
  unfold joined
  rw [dif_pos h]
  obtain ⟨h1, h2⟩ := Classical.choose_spec h
  have e : Classical.choose h = n := by
    rcases Nat.lt_trichotomy (Classical.choose h) n with hlt | e | hlt
    · have := startsAt_mono m (show Classical.choose h + 1 ≤ n from hlt)
      simp only [startsAt] at this
      omega
    · exact e
    · have := startsAt_mono m (show n + 1 ≤ Classical.choose h from hlt)
      simp only [startsAt] at this
      omega
  rw [e]
  congr 1
  omega

theorem acc_of_ends {s0 : St} (h : ∀ X, ∃ N fr v, runN (Program.mk T F1) N (solo s0.g (s0.v.retape X 0)) = .next (solo (G fr [bottom]) v) ∧ fr.mode = .returning) : Acc (Succ T F1) s0 := by
  apply Classical.byContradiction
  intro hn
  obtain ⟨f, f0, hf⟩ := not_acc hn
  have hd : ∀ n, ∃ y : Array Event × (Nat → Question → Nat) × Nat, Steps1 (T := T) (F1 := F1) (f n) (f (n + 1)) y.1 y.2.1 y.2.2 := fun n => by
    obtain ⟨_, _, es, X, d, h⟩ := hf n
    exact ⟨⟨es, X, d⟩, h⟩
  let dat := fun n => Classical.choose (hd n)
  have hst : ∀ n, Steps1 (T := T) (F1 := F1) (f n) (f (n + 1)) (dat n).1 (dat n).2.1 (dat n).2.2 := fun n => Classical.choose_spec (hd n)
  let m : Nat → Nat := fun n => (f (n + 1)).v.drawn - (dat n).2.2
  let τ := joined m (fun n => (dat n).2.2) (fun n => (dat n).2.1)
  have run : ∀ n, runN (Program.mk T F1) n (solo (f 0).g ((f 0).v.retape τ 0)) = .next (solo (f n).g ((f n).v.retape τ (startsAt m n))) := by
    intro n
    induction n with
    | zero => rfl
    | succ n ih =>
      rw [runN_add, ih]
      show runN (Program.mk T F1) 1 _ = _
      have := (hst n).local_ τ (startsAt m n) (fun i hi => joined_at m (fun n => (dat n).2.2) (fun n => (dat n).2.1) n i hi)
      rw [runN_succ, step_solo_go rfl this]
      rfl
  obtain ⟨N, fr, v, hr, hm⟩ := h τ
  rw [← f0, run N] at hr
  simp only [Stepped.next.injEq] at hr
  obtain ⟨e, _⟩ := solo_inj hr
  simp only [St.g, G, Goroutine.mk.injEq] at e
  obtain ⟨_, hnd, _⟩ := hf N
  refine hnd ⟨by rw [e.1]; exact hm, ?_⟩
  have := congrArg List.length e.2.1
  simpa using this
end
end Go.Veiled

namespace Go.Veiled
set_option linter.unusedSimpArgs false
set_option linter.unusedSectionVars false
set_option linter.unusedVariables false
open Go.Conc

section
variable {T : Tables} {F1 : Array Func}

/-- From here the lone run returns, whatever the tape says; R: what is wanted of the value and of the world. -/
def Ends (T : Tables) (F1 : Array Func) (R : Value → World → Prop) (s : St) : Prop :=
  ∃ b : Nat, ∀ (X : Nat → Question → Nat) (d : Nat), b ≤ d → ∃ τ : Nat → Question → Nat, (∀ j, d ≤ j → τ j = X j) ∧
    ∃ N fr v val, runN (Program.mk T F1) N (solo s.g (s.v.retape τ d)) = .next (solo (G fr [bottom]) v) ∧ fr.leaving (Program.mk T F1) v (.returned val) ∧ R val v

theorem ends_of_calls {f : FuncId} {args : Array Value} {v : World} {R : Value → World → Prop}
    (h : ∀ X d, Calls (Program.mk T F1) f args (v.retape X d) fun e w' => ∃ val, e = .returned val ∧ R val w') : Ends T F1 R ⟨Frame.enter (Program.mk T F1) f args .normal, [], v⟩ := by
  refine ⟨0, fun X d _ => ⟨X, fun _ _ => rfl, ?_⟩⟩
  obtain ⟨e, w', fr, ⟨val, rfl, hR⟩, hc, _, hl⟩ := h X d [bottom]
  obtain ⟨N, hN⟩ := hc
  exact ⟨N, fr, w', val, hN, hl, hR⟩

theorem leaving_mode {p : Program} {fr : Frame} {v : World} {val : Value} (h : fr.leaving p v (.returned val)) : fr.mode = .returning := h.1

theorem Ends.step (hT : Twin T F1 F1 (fun _ => False)) {R : Value → World → Prop} {s : St} (hs : NiceSt (T := T) (F1 := F1) s) (hd : ¬ s.done) (he : Ends T F1 R s) (X : Nat → Question → Nat) (d : Nat) :
    ∃ s' es, Steps1 (T := T) (F1 := F1) s s' es X d ∧ Ends T F1 R s' := by
  obtain ⟨b, he⟩ := he
  -- the run on a tape that says the same
  obtain ⟨τ, hτ, N, fr, v, val, hr, hl, hR⟩ := he (fun j => X (d + (j - b))) b (Nat.le_refl _)
  have hN : ∃ n, N = n + 1 := by
    cases N with
    | zero =>
      exfalso
      simp only [runN, Stepped.next.injEq] at hr
      obtain ⟨e, _⟩ := solo_inj hr
      simp only [St.g, G, Goroutine.mk.injEq] at e
      refine hd ⟨by rw [e.1]; exact hl.1, ?_⟩
      have := congrArg List.length e.2.1
      simpa using this
    | succ n => exact ⟨n, rfl⟩
  obtain ⟨n, rfl⟩ := hN
  rcases nice_step hT hs hd τ b with ⟨s', es, h1⟩ | hbad
  · have agree : ∀ i, τ (b + i) = X (d + i) := fun i => by rw [hτ _ (Nat.le_add_right _ _), Nat.add_sub_cancel_left]
    have hm : (s'.v.retape X (d + (s'.v.drawn - b))).drawn - d = s'.v.drawn - b := by show d + (s'.v.drawn - b) - d = _; omega
    have q1 := h1.local_ X d fun i _ => (agree i).symm
    refine ⟨⟨s'.fr, s'.l, s'.v.retape X (d + (s'.v.drawn - b))⟩, es, ⟨⟨h1.nice.fr, h1.nice.mode, h1.nice.l, h1.nice.noLoop⟩, q1, by show d ≤ d + _; omega, fun X' d' htt => ?_⟩, b + (s'.v.drawn - b), fun X' d' hd' => ?_⟩
    · rw [hm] at htt ⊢
      exact h1.local_ X' d' fun i hi => by rw [htt i hi, agree i]
    · -- the ends go on
      let m := s'.v.drawn - b
      have hm' : m ≤ d' := by show s'.v.drawn - b ≤ d'; omega
      obtain ⟨τ2, hτ2, N2, fr2, v2, val2, hr2, hl2, hR2⟩ := he (fun j => if j < d' then X (d + (j - (d' - m))) else X' j) (d' - m) (by show b ≤ d' - (s'.v.drawn - b); omega)
      have hN2 : ∃ n, N2 = n + 1 := by
        cases N2 with
        | zero =>
          exfalso
          simp only [runN, Stepped.next.injEq] at hr2
          obtain ⟨e, _⟩ := solo_inj hr2
          simp only [St.g, G, Goroutine.mk.injEq] at e
          refine hd ⟨by rw [e.1]; exact hl2.1, ?_⟩
          have := congrArg List.length e.2.1
          simpa using this
        | succ n => exact ⟨n, rfl⟩
      obtain ⟨n2, rfl⟩ := hN2
      have q2 := h1.local_ τ2 (d' - m) fun i hi => by
        have hi' : i < m := hi
        rw [hτ2 _ (Nat.le_add_right _ _), agree i]
        rw [if_pos (by omega), Nat.add_sub_cancel_left]
      have e2 : d' - m + (s'.v.drawn - b) = d' := by show d' - m + m = d'; omega
      rw [e2] at q2
      rw [runN_succ, step_solo_go rfl q2] at hr2
      refine ⟨τ2, fun j hj => ?_, n2, fr2, v2, val2, hr2, hl2, hR2⟩
      rw [hτ2 j (by omega)]
      rw [if_neg (by omega)]
  · exact absurd hl.1 (hbad n fr [] v (by simpa using hr))

/-- At the return. -/
theorem Ends.done {R : Value → World → Prop} {s : St} (hd : s.done) (he : Ends T F1 R s) (hn : NiceSt (T := T) (F1 := F1) s) : ∃ (X : Nat → Question → Nat) (d : Nat) (val : Value), s.fr.leaving (Program.mk T F1) (s.v.retape X d) (.returned val) ∧ R val (s.v.retape X d) := by
  obtain ⟨b, he⟩ := he
  obtain ⟨τ, hτ, N, fr, v, val, hr, hl, hR⟩ := he (fun _ _ => 0) b (Nat.le_refl _)
  obtain ⟨fr0, l0, v0⟩ := s
  obtain ⟨hm, hl0⟩ := hd
  simp only at hm hl0
  subst hl0
  cases N with
  | zero =>
    simp only [runN, Stepped.next.injEq] at hr
    obtain ⟨e, e2⟩ := solo_inj hr
    simp only [St.g, G, Goroutine.mk.injEq] at e
    exact ⟨τ, b, val, by show fr0.leaving _ _ _; rw [e.1]; rw [show v0.retape τ b = v from e2]; exact hl, by show R val (v0.retape τ b); rw [show v0.retape τ b = v from e2]; exact hR⟩
  | succ n =>
    exfalso
    cases turn_back (T := T) (F1 := F1) (F2 := F1) hn.fr hm (v := v0.retape τ b) hn.noLoop with
    | stop hq =>
      obtain ⟨o, w, es, h⟩ := hq [bottom]
      obtain ⟨o', w', h'⟩ := step_solo_of (a := G fr0 [bottom]) rfl h
      exact absurd hr (runN_ended h')
    | back u v' es hM _ =>
      have h1 := (hM bottom).q []
      have hb : bottom.finish u = bottom := rfl
      rw [hb] at h1
      rw [runN_succ, show Go.step (Program.mk T F1) (solo (St.g ⟨fr0, [], v0⟩) (v0.retape τ b)) = .next (solo (G bottom []) v') from step_solo_go rfl h1] at hr
      cases n with
      | zero =>
        simp only [runN, Stepped.next.injEq] at hr
        obtain ⟨e, _⟩ := solo_inj hr
        simp only [G, Goroutine.mk.injEq] at e
        have := congrArg List.length e.2.1
        simp at this
      | succ n =>
        have hend : ∃ o w es, stepG (Program.mk T F1) true (G bottom []) v' = .ended o w es := by
          simp only [G, bottom, stepG, stepG.exec]
          exact ⟨_, _, _, rfl⟩
        obtain ⟨o, w, es', h⟩ := hend
        obtain ⟨o', w', h'⟩ := step_solo_of (a := G bottom []) rfl h
        exact absurd hr (runN_ended h')
end
end Go.Veiled

namespace Go.Veiled
set_option linter.unusedSimpArgs false
set_option linter.unusedSectionVars false
set_option linter.unusedVariables false
open Go.Conc
open Go.ConcN (sumTo upd sumTo_upd upd_ne upd_same)

theorem evL_mono {Shun : Loc → Prop} {B B' : Nat} {e : Event} (h : EvL Shun B e) (hB : B ≤ B') : EvL Shun B' e := ⟨h.1, h.2.1, h.2.2.1, MemAct.low_mono hB h.2.2.2⟩

theorem evL_plain {Shun : Loc → Prop} {Bl : Nat → Prop} {n B : Nat} {e : Event} (hs : ∀ l, Shun l → ∃ a, l = .cell a ∧ Bl a.block) (hB : n ≤ B) (h : Plain Bl n e) : EvL Shun B e := by
  obtain ⟨loc, wr, sy⟩ := e
  cases loc with
  | cell a =>
    obtain ⟨h1, h2⟩ := h
    refine ⟨fun x hx hsx => ?_, by simp, by simp, ?_⟩
    · exfalso
      simp only [MemAct.ofEvent, MemAct.touch?, Option.some.injEq] at hx
      subst hx
      obtain ⟨a', e', hb⟩ := hs _ hsx
      cases e'
      exact h1 hb
    · show a.block < B; exact Nat.lt_of_lt_of_le h2 hB
  | obj r =>
    obtain ⟨h1, h2⟩ := h
    have no : ∀ x : Touch, x.loc = .obj r → Shun x.loc → False := fun x hx hsx => by
      obtain ⟨a', e', hb⟩ := hs _ hsx
      rw [hx] at e'; cases e'
    refine ⟨fun x hx hsx => ?_, by simp, by simp, ?_⟩
    · exfalso
      cases wr <;> cases sy <;> simp only [MemAct.ofEvent, MemAct.touch?, Option.some.injEq] at hx <;> first | (cases hx; done) | (refine no x ?_ hsx; subst hx; rfl)
    · cases wr <;> cases sy <;> (show r < B; exact Nat.lt_of_lt_of_le h2 hB)
  | output => exact h.elim
  | goroutines => exact h.elim
  | mark m => cases m <;> first | exact h.elim | exact ⟨fun x hx => (by cases hx), (by simp), (by simp), trivial⟩

section
variable {P : Program} {Shun : Loc → Prop}

/-- The others slip till goroutine 0 is picked; then it takes its step. -/
theorem beside_one : ∀ (M : Nat) (gs : Array Goroutine) (a : Goroutine) (w : World) (sl : Option (Nat × Nat)) (t : Trace) (q : Nat → Nat) (B : Nat), sumTo gs.size q ≤ M → gs[0]? = some a → a.status = .running → Leavers P t gs q → Past Shun B t →
    (∀ d, ∃ B' a' w' es, stepG P true a (w.at d) = .go a' w' es ∧ B ≤ B' ∧ ∀ e ∈ es, EvL Shun B' e) →
    ∃ (N d : Nat) (a' : Goroutine) (w' : World) (es : Array Event) (gs' : Array Goroutine) (sl' : Option (Nat × Nat)) (t' : Trace) (q' : Nat → Nat) (B' : Nat),
      stepG P true a (w.at d) = .go a' w' es ∧ runNT P N (crowd gs w sl) t = (.next (crowd gs' w' sl'), t') ∧ gs'[0]? = some a' ∧ Leavers P t' gs' q' ∧ Past Shun B' t' := by
  intro M
  induction M using Nat.strongRecOn with
  | ind M ih =>
    intro gs a w sl t q B hM h0 ha hL hP hstep
    have hlt0 : 0 < gs.size := (Array.getElem?_eq_some_iff.1 h0).1
    have haw : ∀ g ∈ gs, awake g := by
      intro g hg
      obtain ⟨i, hi⟩ := Array.mem_iff_getElem?.1 hg
      rcases Nat.eq_zero_or_pos i with rfl | hpos
      · rw [h0] at hi; cases hi; exact awake_of (.inl ha)
      · exact awake_of ((hL.old i _ hpos hi).status.elim .inl fun x => .inr (.inr x))
    obtain ⟨i, g, d, sl', hi, hg, hst⟩ := crowd_pick (P := P) (w := w) (sl := sl) haw ⟨0, a, h0, ha⟩
    -- what a step of goroutine number k leaves of the others
    have others : ∀ (k : Nat) (g g' : Goroutine) (w' : World) (es : Array Event) (q' : Nat → Nat), (∀ j, j ≠ k → q' j = q j) →
        (0 < k → ∀ j x, k = j → x = g' → QuitsD P (q' j) (Deaf (t ++ MemOp.ofEvents k g.frame.fn g.frame.place es) j) x) → k < gs.size →
        Leavers P (t ++ MemOp.ofEvents k g.frame.fn g.frame.place es) ((gs.map (woken P g g' w')).setIfInBounds k g') q' := by
      intro k g g' w' es q' hq' hown hk
      refine ⟨fun j x hj hx => ?_, fun j hj => ?_⟩
      · by_cases hkj : k = j
        · subst hkj
          rw [Array.getElem?_setIfInBounds_self_of_lt (by simpa using hk)] at hx
          exact hown hj k x rfl (Option.some.inj hx).symm
        · rw [Array.getElem?_setIfInBounds_ne hkj, Array.getElem?_map] at hx
          obtain ⟨y, hy, rfl⟩ := Option.map_eq_some_iff.1 hx
          have hy' := hL.old j y hj hy
          rw [woken_quitsD hy', hq' j (Ne.symm hkj), Deaf_other t hkj _ (fun op hop => by obtain ⟨e, _, rfl⟩ := Conc.mem_ofEvents hop; rfl)]
          exact hy'
      · rw [Deaf_other t (g' := k) (by simp at hj; omega) _ (fun op hop => by obtain ⟨e, _, rfl⟩ := Conc.mem_ofEvents hop; rfl)]
        exact hL.above j (by simpa using hj)
    rcases Nat.eq_zero_or_pos i with rfl | hpos
    · obtain rfl : g = a := by rw [h0] at hi; exact (Option.some.inj hi).symm
      obtain ⟨B', a', w', es, hgo, hB, hes⟩ := hstep d
      have hrunT := runT_crowd_go (P := P) (sl := sl') (i := 0) hi (show stepG P (0 == 0) g (w.at d) = _ from hgo)
      refine ⟨1, d, a', w', es, _, sl', t ++ MemOp.ofEvents 0 g.frame.fn g.frame.place es, q, B', hgo, ?_, by simp [hlt0], others 0 g a' w' es q (fun _ _ => rfl) (fun h => absurd h (by omega)) hlt0, (hP.mono hB).own hes⟩
      simp only [runNT, hst, hrunT]
    · have hq := hL.old i g hpos hi
      have hi0 : (i == 0) = false := by simp; omega
      have hlt : i < gs.size := (Array.getElem?_eq_some_iff.1 hi).1
      cases hqi : q i with
      | zero => rw [hqi] at hq; rw [hq.1] at hg; cases hg
      | succ k =>
        rw [hqi] at hq
        rcases hq with ⟨hf, _⟩ | ⟨_, g', es, hm, hstp, hq'⟩
        · rw [hf] at hg; cases hg
        have hrunT := runT_crowd_go (P := P) (sl := sl') (i := i) hi (by rw [hi0]; exact hstp (w.at d))
        have hsz : ((gs.map (woken P g g' (w.at d))).setIfInBounds i g').size = gs.size := by simp
        have hsum : sumTo gs.size (upd q i k) + (k + 1) = sumTo gs.size q + k := by
          have := sumTo_upd q k id hlt
          simpa [hqi] using this
        obtain ⟨N, d2, a2, w2, es2, gs2, sl2, t2, q2, B2, h1, h2, h3, h4, h5⟩ := ih (sumTo gs.size (upd q i k)) (by omega) ((gs.map (woken P g g' (w.at d))).setIfInBounds i g') a (w.at d) sl' (t ++ MemOp.ofEvents i g.frame.fn g.frame.place es) (upd q i k) B (by rw [hsz]; exact Nat.le_refl _)
          (by
            have hne : i ≠ 0 := by omega
            rw [Array.getElem?_setIfInBounds_ne hne, Array.getElem?_map, h0]
            simp [woken_run ha])
          ha (others i g g' (w.at d) es (upd q i k) (fun j hj => upd_ne q k hj) (fun _ j x hj hx => by
            subst hj hx
            rw [upd_same, Deaf_own]
            exact hq') hlt)
          (hP.mute (by omega) hm) (fun d' => hstep d')
        exact ⟨N + 1, d2, a2, w2, es2, gs2, sl2, t2, q2, B2, h1, by simp only [runNT, hst, hrunT]; exact h2, h3, h4, h5⟩
end
end Go.Veiled

namespace Go.Veiled
set_option linter.unusedSimpArgs false
set_option linter.unusedSectionVars false
set_option linter.unusedVariables false
open Go.Conc
open Go.ConcN (sumTo)

theorem acc_trans {α : Type} {r : α → α → Prop} {a : α} (h : Acc r a) : Acc (Relation.TransGen r) a := by
  induction h with
  | intro x _ ih =>
    refine ⟨x, fun y hy => ?_⟩
    have key : ∀ {y z : α}, Relation.TransGen r y z → z = x → Acc (Relation.TransGen r) y := by
      intro y z hyz
      induction hyz with
      | single h1 => rintro rfl; exact ih _ h1
      | tail h1 h2 _ => rintro rfl; exact (ih _ h2).inv h1
    exact key hy rfl

section
variable {T : Tables} {F1 F2 : Array Func} {special : FuncId → Prop} {R : Value → World → Prop}

theorem Ends.retape {s : St} (h : Ends T F1 R s) (X : Nat → Question → Nat) (d : Nat) : Ends T F1 R ⟨s.fr, s.l, s.v.retape X d⟩ := h
theorem NiceSt.retape {s : St} (h : NiceSt (T := T) (F1 := F1) s) (X : Nat → Question → Nat) (d : Nat) : NiceSt (T := T) (F1 := F1) ⟨s.fr, s.l, s.v.retape X d⟩ := ⟨h.fr, h.mode, h.l, h.noLoop⟩

/-- A function that refuses comes to no end. -/
theorem not_ends_refuse {s : St} (hm : s.fr.mode = .run) {why : String} {k : List Item} (ht : s.fr.todo = .code (.refuse why) :: k) (h : Ends T F1 R s) : False := by
  obtain ⟨b, h⟩ := h
  obtain ⟨τ, _, N, fr, v, val, hr, hl, _⟩ := h (fun _ _ => 0) b (Nat.le_refl _)
  cases N with
  | zero =>
    simp only [runN, Stepped.next.injEq] at hr
    obtain ⟨e, _⟩ := solo_inj hr
    simp only [St.g, G, Goroutine.mk.injEq] at e
    have := hl.1
    rw [← e.1, hm] at this
    cases this
  | succ n =>
    have hend : ∃ o w es, stepG (Program.mk T F1) true s.g (s.v.retape τ b) = .ended o w es := by
      simp only [St.g, G, stepG, hm, stepG.exec, ht]
      exact ⟨_, _, _, rfl⟩
    obtain ⟨o, w, es, h⟩ := hend
    obtain ⟨o', w', h'⟩ := step_solo_of (a := s.g) rfl h
    exact absurd hr (runN_ended h')

/-- The same stretch, as states. -/
theorem run_path (hT : Twin T F1 F1 (fun _ => False)) : ∀ (K : Nat) {s : St}, NiceSt (T := T) (F1 := F1) s → Ends T F1 R s → ∀ {X d fr' c' l' v'}, runN (Program.mk T F1) K (solo s.g (s.v.retape X d)) = .next (solo (G fr' ((c' :: l') ++ [bottom])) v') →
    NiceSt (T := T) (F1 := F1) ⟨fr', c' :: l', v'⟩ ∧ Ends T F1 R ⟨fr', c' :: l', v'⟩ ∧ (K = 0 ∨ Relation.TransGen (Succ T F1) ⟨fr', c' :: l', v'⟩ s) := by
  intro K
  induction K with
  | zero =>
    intro s hn he X d fr' c' l' v' hr
    simp only [runN, Stepped.next.injEq] at hr
    obtain ⟨e, rfl⟩ := solo_inj hr
    simp only [St.g, G, Goroutine.mk.injEq] at e
    obtain ⟨e1, e2, _⟩ := e
    have e3 : s.l = c' :: l' := List.append_cancel_right e2
    refine ⟨?_, ?_, .inl rfl⟩
    · have := hn.retape X d
      rw [e1, e3] at this
      exact this
    · have := he.retape X d
      rw [e1, e3] at this
      exact this
  | succ K ih =>
    intro s hn he X d fr' c' l' v' hr
    by_cases hd : s.done
    · exfalso
      obtain ⟨fr0, l0, v0⟩ := s
      obtain ⟨hm, hl0⟩ := hd
      simp only at hm hl0
      subst hl0
      cases turn_back (T := T) (F1 := F1) (F2 := F1) hn.fr hm (v := v0.retape X d) hn.noLoop with
      | stop hq =>
        obtain ⟨o, w, es, h⟩ := hq [bottom]
        obtain ⟨o', w', h'⟩ := step_solo_of (a := G fr0 [bottom]) rfl h
        exact absurd hr (runN_ended h')
      | back u v1 es hM _ =>
        have h1 := (hM bottom).q []
        have hb : bottom.finish u = bottom := rfl
        rw [hb] at h1
        rw [runN_succ, show Go.step (Program.mk T F1) (solo (St.g ⟨fr0, [], v0⟩) (v0.retape X d)) = .next (solo (G bottom []) v1) from step_solo_go rfl h1] at hr
        cases K with
        | zero =>
          simp only [runN, Stepped.next.injEq] at hr
          obtain ⟨e, _⟩ := solo_inj hr
          simp only [G, Goroutine.mk.injEq] at e
          have := congrArg List.length e.2.1
          simp at this
        | succ n =>
          have hend : ∃ o w es, stepG (Program.mk T F1) true (G bottom []) v1 = .ended o w es := by
            simp only [G, bottom, stepG, stepG.exec]
            exact ⟨_, _, _, rfl⟩
          obtain ⟨o, w, es', h⟩ := hend
          obtain ⟨o', w', h'⟩ := step_solo_of (a := G bottom []) rfl h
          exact absurd hr (runN_ended h')
    · obtain ⟨s1, es, h1, he1⟩ := Ends.step hT hn hd he X d
      rw [runN_succ, show Go.step (Program.mk T F1) (solo s.g (s.v.retape X d)) = .next (solo s1.g s1.v) from step_solo_go rfl h1.q] at hr
      obtain ⟨a, b, c⟩ := ih h1.nice he1 (X := s1.v.tape) (d := s1.v.drawn) hr
      refine ⟨a, b, .inr ?_⟩
      have hs : Succ T F1 s1 s := ⟨hn, hd, es, X, d, h1⟩
      rcases c with rfl | c
      · simp only [runN, Stepped.next.injEq] at hr
        obtain ⟨e, e0⟩ := solo_inj hr
        simp only [St.g, G, Goroutine.mk.injEq] at e
        obtain ⟨e1, e2, _⟩ := e
        have e3 : s1.l = c' :: l' := List.append_cancel_right e2
        have : (⟨fr', c' :: l', v'⟩ : St) = s1 := by rw [← e1, ← e3, ← e0]
        rw [this]
        exact .single hs
      · exact .tail c hs

/-- A call of which a contract is known: the state behind it. -/
theorem jump (hT : Twin T F1 F1 (fun _ => False)) {f : FuncId} {args : Array Value} {c : Frame} {l : List Frame} {v : World} (hn : NiceSt (T := T) (F1 := F1) ⟨Frame.enter (Program.mk T F1) f args .normal, c :: l, v⟩) (he : Ends T F1 R ⟨Frame.enter (Program.mk T F1) f args .normal, c :: l, v⟩)
    {Spec : Value → World → Prop} (hC : ∀ X d, Calls (Program.mk T F1) f args (v.retape X d) fun e w' => ∃ val, e = .returned val ∧ Spec val w') :
    ∃ val v2, Spec val v2 ∧ NiceSt (T := T) (F1 := F1) ⟨c.finish val, l, v2⟩ ∧ Ends T F1 R ⟨c.finish val, l, v2⟩ ∧ Relation.TransGen (Succ T F1) ⟨c.finish val, l, v2⟩ ⟨Frame.enter (Program.mk T F1) f args .normal, c :: l, v⟩ := by
  obtain ⟨e, w', fr, ⟨val, rfl, hR⟩, hc, hfn, hl⟩ := hC (fun _ _ => 0) 0 ((c :: l) ++ [bottom])
  obtain ⟨K, hK⟩ := hc
  obtain ⟨h1, h2, h3⟩ := run_path hT K hn he (X := fun _ _ => 0) (d := 0) hK
  have hnd : ¬ (⟨fr, c :: l, w'⟩ : St).done := fun h => by cases h.2
  obtain ⟨s2, es, h4, h5⟩ := Ends.step hT h1 hnd h2 w'.tape w'.drawn
  obtain ⟨hm, hd, hk, fn, hf, hr⟩ := hl
  have hq := h4.q
  have hpop : stepG (Program.mk T F1) true (St.g ⟨fr, c :: l, w'⟩) (w'.retape w'.tape w'.drawn) = .go (G (c.finish val) (l ++ [bottom])) w' ((GStep.after (seen (Program.mk T F1) fr.fn ((results fn fr.tmps).runT (Program.mk T F1) w' #[]).2) (.go (G (c.finish val) (l ++ [bottom])) w' #[])).es) := by
    have e2 : (results fn fr.tmps).runT (Program.mk T F1) w' #[] = (.ok val w', ((results fn fr.tmps).runT (Program.mk T F1) w' #[]).2) := by
      have := Sem.runT_eq (Program.mk T F1) (results fn fr.tmps) w' #[]
      rw [this, hr]
    have := unwind_ok hd hk hm hf e2 c (l ++ [bottom])
    rw [show St.g ⟨fr, c :: l, w'⟩ = G fr (c :: (l ++ [bottom])) from rfl]
    rw [show w'.retape w'.tape w'.drawn = w' from rfl, this]
    simp [GStep.after, GStep.es]
  rw [hpop] at hq
  simp only [GStep.go.injEq] at hq
  obtain ⟨q1, q2, _⟩ := hq
  have e3 : s2 = ⟨c.finish val, l, w'⟩ := by
    obtain ⟨f2, l2, v2⟩ := s2
    simp only [St.g, G, Goroutine.mk.injEq] at q1
    obtain ⟨a, b, _⟩ := q1
    simp only at q2
    rw [← a, ← List.append_cancel_right b, ← q2]
  have hs : Succ T F1 s2 ⟨fr, c :: l, w'⟩ := ⟨h1, hnd, es, _, _, h4⟩
  rw [e3] at h4 h5 hs
  refine ⟨val, w', hR, h4.nice, h5, ?_⟩
  rcases h3 with rfl | h3
  · exfalso
    simp only [runN, Stepped.next.injEq] at hK
    obtain ⟨e, _⟩ := solo_inj hK
    simp only [St.g, G, Goroutine.mk.injEq] at e
    have := e.1
    rw [← this] at hm
    simp [Frame.enter] at hm
  · exact Relation.TransGen.trans (.single hs) h3
end
end Go.Veiled

namespace Go.Veiled
set_option linter.unusedSimpArgs false
set_option linter.unusedSectionVars false
set_option linter.unusedVariables false
open Go.Conc
open Go.ConcN (sumTo)

section
variable {T : Tables} {F1 F2 : Array Func} {special : FuncId → Prop} {R : Value → World → Prop} {Lo : Nat → Option Obj}

/-- What is held of the machine, goroutine 0 with frame fr over l; v: the twin's world. -/
structure Held (Lo : Nat → Option Obj) (T : Tables) (F2 : Array Func) (fr : Frame) (l : List Frame) (v : World) (gs : Array Goroutine) (w : World) (t : Trace) (q : Nat → Nat) (Shun : Loc → Prop) (B : Nat) : Prop where
  g0 : gs[0]? = some (G fr l)
  veil : Veil Lo (v.retape w.tape w.drawn) w
  leavers : Leavers (Program.mk T F2) t gs q
  past : Past Shun B t
  shun : ∀ x, Shun x → ∃ a, x = .cell a ∧ Blind v a.block

/-- What is asked of a function that starts goroutines: a contract of its twin, and the run of the function itself, which comes to the same. -/
def PhaseOK (T : Tables) (F1 F2 : Array Func) (special : FuncId → Prop) : Prop :=
  ∀ (f : FuncId) (args : Array Value) (c : Frame) (l : List Frame) (v : World) (R : Value → World → Prop), special f → NiceSt (T := T) (F1 := F1) ⟨Frame.enter (Program.mk T F1) f args .normal, c :: l, v⟩ →
    Ends T F1 R ⟨Frame.enter (Program.mk T F1) f args .normal, c :: l, v⟩ →
    ∃ Spec : Value → World → Prop, (∀ X d, Calls (Program.mk T F1) f args (v.retape X d) fun e w' => ∃ val, e = .returned val ∧ Spec val w') ∧
      ∀ (Lo : Nat → Option Obj) (gs : Array Goroutine) (w : World) (sl : Option (Nat × Nat)) (t : Trace) (q : Nat → Nat) (Shun : Loc → Prop) (B : Nat), Held Lo T F2 (Frame.enter (Program.mk T F2) f args .normal) (c :: l) v gs w t q Shun B →
        ∃ (N : Nat) (gs' : Array Goroutine) (w' : World) (sl' : Option (Nat × Nat)) (t' : Trace) (q' : Nat → Nat) (Shun' : Loc → Prop) (B' : Nat),
          runNT (Program.mk T F2) N (crowd gs w sl) t = (.next (crowd gs' w' sl'), t') ∧ ∀ val v2, Spec val v2 → Held Lo T F2 (c.finish val) l v2 gs' w' t' q' Shun' B'

structure Both (T : Tables) (F1 F2 : Array Func) (s : St) : Prop where
  fr : Nice T F1 F2 s.fr
  l : ∀ x ∈ s.l, Nice T F1 F2 x ∧ x.mode = .run

def lastFn (s : St) : Option FuncId := ((s.fr :: s.l).getLast?).map (·.fn)

theorem lastFn_of {fr fr' : Frame} (h : fr'.fn = fr.fn) (l : List Frame) (v v' : World) : lastFn ⟨fr', l, v'⟩ = lastFn ⟨fr, l, v⟩ := by
  unfold lastFn
  cases l with
  | nil => simp [h]
  | cons c l => simp [List.getLast?_cons_cons]
theorem lastFn_push (fr x : Frame) (l : List Frame) (v v' : World) : lastFn ⟨x, fr :: l, v'⟩ = lastFn ⟨fr, l, v⟩ := by
  unfold lastFn
  simp [List.getLast?_cons_cons]

theorem shun_step {v v' : World} {Shun : Loc → Prop} (h : ∀ x, Shun x → ∃ a, x = .cell a ∧ Blind v a.block) (hb : ∀ r, Blind v r → Blind v' r) : ∀ x, Shun x → ∃ a, x = .cell a ∧ Blind v' a.block := fun x hx =>
  let ⟨a, e, hB⟩ := h x hx
  ⟨a, e, hb _ hB⟩

theorem st_eq {s : St} {fr : Frame} {l : List Frame} {v : World} (h : s.g = G fr (l ++ [bottom])) (hv : s.v = v) : s = ⟨fr, l, v⟩ := by
  obtain ⟨f, k, u⟩ := s
  simp only [St.g, G, Goroutine.mk.injEq] at h
  obtain ⟨a, b, _⟩ := h
  simp only at hv
  rw [a, List.append_cancel_right b, hv]

/-- What one own step of goroutine 0 comes to. -/
inductive Came (Lo : Nat → Option Obj) (T : Tables) (F1 F2 : Array Func) (special : FuncId → Prop) (R : Value → World → Prop) (s : St) (a' : Goroutine) (w' : World) : Prop
  | on (s' : St) : Succ T F1 s' s → NiceSt (T := T) (F1 := F1) s' → Both T F1 F2 s' → Ends T F1 R s' → lastFn s' = lastFn s → a' = G s'.fr s'.l → Veil Lo s'.v w' → (∀ r, Blind s.v r → Blind s'.v r) → Came Lo T F1 F2 special R s a' w'
  | go (f : FuncId) (args : Array Value) (v' : World) : special f → Succ T F1 ⟨Frame.enter (Program.mk T F1) f args .normal, s.fr :: s.l, v'⟩ s → NiceSt (T := T) (F1 := F1) ⟨Frame.enter (Program.mk T F1) f args .normal, s.fr :: s.l, v'⟩ →
      Ends T F1 R ⟨Frame.enter (Program.mk T F1) f args .normal, s.fr :: s.l, v'⟩ → a' = G (Frame.enter (Program.mk T F2) f args .normal) (s.fr :: s.l) → Veil Lo v' w' → (∀ r, Blind s.v r → Blind v' r) → s.fr.mode = .run → Came Lo T F1 F2 special R s a' w'

theorem one_step (hT : Twin T F1 F2 special) (hT1 : Twin T F1 F1 (fun _ => False)) {s : St} (hn : NiceSt (T := T) (F1 := F1) s) (hb : Both T F1 F2 s) (he : Ends T F1 R s) (hd : ¬ s.done) {w : World} (hv : Veil Lo (s.v.retape w.tape w.drawn) w) (d : Nat) :
    ∃ a' w' es, stepG (Program.mk T F2) true (G s.fr s.l) (w.at d) = .go a' w' es ∧ (∀ e ∈ es, Plain (Blind s.v) w'.heap.size e) ∧ Came Lo T F1 F2 special R s a' w' := by
  have hv' : Veil Lo (s.v.retape w.tape d) (w.at d) := ⟨rfl, rfl, hv.os, hv.output, hv.size, hv.orig, hv.elder, hv.block⟩
  obtain ⟨s1, es1, h1, he1⟩ := Ends.step hT1 hn hd he w.tape d
  have hsucc : Succ T F1 s1 s := ⟨hn, hd, es1, w.tape, d, h1⟩
  have hq := h1.q
  obtain ⟨fr, l, v⟩ := s
  rcases hn.mode with hm | hm
  · cases turn_run hT hb.fr hm (v := v.retape w.tape d) hn.noLoop with
    | on fr' v' es hN hmd hfn hM =>
      have e := (hM.q (l ++ [bottom])).symm.trans hq
      simp only [GStep.go.injEq] at e
      obtain ⟨e1, e2, _⟩ := e
      have es := st_eq e1.symm e2.symm
      subst es
      obtain ⟨w', hw', hp⟩ := hM.p _ (w.at d) hv'
      refine ⟨_, w', _, hp l, fun x hx => (hM.plain x hx).mono (by rw [hw'.size]; exact Nat.le_refl _), .on _ hsucc h1.nice ⟨hN, hb.l⟩ he1 (lastFn_of hfn l _ _) rfl hw' hM.blind⟩
    | enter f args v' es hf hsp hM =>
      have e := (hM.q (l ++ [bottom])).symm.trans hq
      simp only [GStep.go.injEq] at e
      obtain ⟨e1, e2, _⟩ := e
      have es := st_eq (l := fr :: l) e1.symm e2.symm
      subst es
      obtain ⟨w', hw', hp⟩ := hM.p _ (w.at d) hv'
      refine ⟨_, w', _, hp l, fun x hx => (hM.plain x hx).mono (by rw [hw'.size]; exact Nat.le_refl _), ?_⟩
      by_cases hs : special f
      · exact .go f args v' hs hsucc h1.nice he1 rfl hw' hM.blind hm
      · obtain ⟨fn, f1, f2⟩ := hsp.resolve_left hs
        have eq : Frame.enter (Program.mk T F2) f args .normal = Frame.enter (Program.mk T F1) f args .normal := by
          unfold Frame.enter
          rw [show (Program.mk T F2).funcs[f]? = some fn from f2, show (Program.mk T F1).funcs[f]? = some fn from f1]
        refine .on _ hsucc h1.nice ⟨⟨rfl, rfl, rfl, ⟨fn, f1, f2⟩, h1.nice.fr.todo⟩, ?_⟩ he1 (lastFn_push _ _ _ _ _) (by rw [eq]) hw' hM.blind
        intro x hx
        rcases List.mem_cons.1 hx with rfl | hx
        · exact ⟨hb.fr, hm⟩
        · exact hb.l x hx
    | refuse f args v' es why hf hq2 =>
      exfalso
      have e := (hq2 (l ++ [bottom])).symm.trans hq
      simp only [GStep.go.injEq] at e
      obtain ⟨e1, e2, _⟩ := e
      have es := st_eq (l := fr :: l) e1.symm e2.symm
      subst es
      cases hF : F1[f]? with
      | none => rw [hF] at hf; cases hf
      | some fn =>
        rw [hF] at hf
        have hb2 : fn.body = some (.refuse why) := hf
        exact not_ends_refuse (why := why) (k := []) rfl (by simp [Frame.enter, hF, hb2]) he1
    | raise chain v' es hq2 =>
      exfalso
      have e := (hq2 (l ++ [bottom])).symm.trans hq
      simp only [GStep.go.injEq] at e
      obtain ⟨e1, e2, _⟩ := e
      have es := st_eq e1.symm e2.symm
      subst es
      rcases h1.nice.mode with h | h <;> cases h
    | stop hq2 =>
      exfalso
      obtain ⟨o, w2, e2, h2⟩ := hq2 (l ++ [bottom])
      rw [show St.g ⟨fr, l, v⟩ = G fr (l ++ [bottom]) from rfl, h2] at hq
      cases hq
  · cases l with
    | nil => exact absurd ⟨hm, rfl⟩ hd
    | cons c l =>
      cases turn_back hb.fr hm (v := v.retape w.tape d) hn.noLoop with
      | stop hq2 =>
        exfalso
        obtain ⟨o, w2, e2, h2⟩ := hq2 (c :: l ++ [bottom])
        rw [show St.g ⟨fr, c :: l, v⟩ = G fr (c :: l ++ [bottom]) from rfl, h2] at hq
        cases hq
      | back u v' es hM _ =>
        have e := ((hM c).q (l ++ [bottom])).symm.trans hq
        simp only [GStep.go.injEq] at e
        obtain ⟨e1, e2, _⟩ := e
        have es := st_eq e1.symm e2.symm
        subst es
        obtain ⟨w', hw', hp⟩ := (hM c).p _ (w.at d) hv'
        obtain ⟨hc, hcm⟩ := hb.l c (by simp)
        refine ⟨_, w', _, hp l, fun x hx => ((hM c).plain x hx).mono (by rw [hw'.size]; exact Nat.le_refl _), .on _ hsucc h1.nice ⟨(hc.finish u).1, fun x hx => hb.l x (List.mem_cons_of_mem _ hx)⟩ he1 ?_ rfl hw' (hM c).blind⟩
        exact (lastFn_of (finish_fn c u) l v' v).trans (lastFn_push c fr l v v).symm
theorem Veil.self {v w : World} (h : Veil Lo v w) : Veil Lo (v.retape w.tape w.drawn) w := ⟨rfl, rfl, h.os, h.output, h.size, h.orig, h.elder, h.block⟩

/-- ████ THE RUN IN THE PROGRAM ITSELF, ON WHATEVER TAPE, BESIDE OTHERS THAT ONLY LEAVE: it ends as the lone run of the twin. ████ -/
theorem beside_run (hT : Twin T F1 F2 special) (hT1 : Twin T F1 F1 (fun _ => False)) (hPh : PhaseOK T F1 F2 special) {f0 : FuncId} {fn0 : Func} {k0 : Tmp} (hf0 : F2[f0]? = some fn0) (hres : fn0.results = #[.tmp k0])
    (hinit : (Program.mk T F2).inits.idxOf? f0 = none) : ∀ (s : St), Acc (Relation.TransGen (Succ T F1)) s → NiceSt (T := T) (F1 := F1) s → Both T F1 F2 s → Ends T F1 R s → lastFn s = some f0 →
    ∀ (gs : Array Goroutine) (w : World) (sl : Option (Nat × Nat)) (t : Trace) (q : Nat → Nat) (Shun : Loc → Prop) (B : Nat), Held Lo T F2 s.fr s.l s.v gs w t q Shun B →
      ∃ N last o w' t', runNT (Program.mk T F2) (N + 1) (crowd gs w sl) t = (.ended o w', t') ∧ runN (Program.mk T F2) N (crowd gs w sl) = .next last ∧ Go.step (Program.mk T F2) last = .ended o w' ∧
        Good (Program.mk T F2) (fun val w' => ∃ v' X d, R val (World.retape v' X d) ∧ Veil Lo (v'.retape w'.tape w'.drawn) w') last o w' t' := by
  intro s hacc
  induction hacc with
  | intro s _ ih =>
    intro hn hb he hlast gs w sl t q Shun B hH
    by_cases hd : s.done
    · -- the return
      obtain ⟨X, d, val, hl, hR⟩ := he.done hd hn
      obtain ⟨fr, l, v⟩ := s
      obtain ⟨hm, hl0⟩ := hd
      simp only at hm hl0
      subst hl0
      have hfn : fr.fn = f0 := by
        simp only [lastFn, List.getLast?_singleton, Option.map_some, Option.some.injEq] at hlast
        exact hlast
      obtain ⟨fn, f1, f2⟩ := hb.fr.fine
      have e0 : fn = fn0 := by
        simp only [hfn] at f2
        exact Option.some.inj (f2.symm.trans hf0)
      subst e0
      obtain ⟨_, _, _, fn', hfn', hrun⟩ := hl
      have e1 : fn' = fn := Option.some.inj ((show F1[fr.fn]? = some fn' from hfn').symm.trans f1)
      subst e1
      have hval : val = fr.tmps.getD k0 undef := by
        have := results_tmp hres fr.tmps (Program.mk T F1) (v.retape X d)
        rw [this] at hrun
        simp only [Result.ok.injEq] at hrun
        exact hrun.1.symm
      have hgo : ∀ w₁, stepG (Program.mk T F2) true (G fr []) w₁ = .ended (.done val) w₁ #[] := by
        intro w₁
        have hr := results_tmp hres fr.tmps (Program.mk T F2) w₁
        have hrt : (results fn' fr.tmps).runT (Program.mk T F2) w₁ #[] = (.ok val w₁, #[]) := by
          rw [Sem.runT_eq, hr, ← hval, events_results_tmp hres]
        have hk : fr.kind = .normal := hb.fr.kind
        have hde : fr.defers = [] := hb.fr.defers
        have hi : (Program.mk T F2).inits.idxOf? fr.fn = none := by rw [hfn]; exact hinit
        simp [G, stepG, hm, unwind, hde, show (Program.mk T F2).funcs[fr.fn]? = some fn' from f2, hrt, doReturn, hk, hi, GStep.after, seen, -Sem.runT_eq]
      have hG : Goes (Program.mk T F2) true AtRel (fun _ _ _ => False) (AtEnd (Program.mk T F2) Shun B (fun val w' => ∃ v' X d, R val (World.retape v' X d) ∧ Veil Lo (v'.retape w'.tape w'.drawn) w')) 0 (G fr []) w := by
        rintro w₁ ⟨d', rfl⟩
        refine ⟨rfl, val, #[], hgo _, by simp, v, X, d, hR, ?_⟩
        exact ⟨rfl, rfl, hH.veil.os, hH.veil.output, hH.veil.size, hH.veil.orig, hH.veil.elder, hH.veil.block⟩
      exact beside_ends (fun _ _ _ h => h.elim) hH.g0 hH.leavers hH.past hG
    · -- a step
      obtain ⟨N, d, a', w', es, gs', sl', t', q', B', h1, h2, h3, h4, h5⟩ := beside_one (P := (Program.mk T F2)) (Shun := Shun) _ gs (G s.fr s.l) w sl t q B (Nat.le_refl _) hH.g0 rfl hH.leavers hH.past (fun d => by
        obtain ⟨a', w', es, h1, h2, _⟩ := one_step hT hT1 hn hb he hd hH.veil d
        exact ⟨max B w'.heap.size, a', w', es, h1, Nat.le_max_left _ _, fun e hx => evL_plain hH.shun (Nat.le_max_right _ _) (h2 e hx)⟩)
      obtain ⟨a2, w2, es2, g1, g2, g3⟩ := one_step hT hT1 hn hb he hd hH.veil d
      have e := g1.symm.trans h1
      simp only [GStep.go.injEq] at e
      obtain ⟨rfl, rfl, rfl⟩ := e
      cases g3 with
      | on s' hs hn' hb' he' hl' ha hv hbl =>
        subst ha
        obtain ⟨N2, last, o, w3, t3, r1, r2, r3, r4⟩ := ih s' (.single hs) hn' hb' he' (hl'.trans hlast) gs' w2 sl' t' q' Shun B' ⟨h3, hv.self, h4, h5, shun_step hH.shun hbl⟩
        refine ⟨N + N2, last, o, w3, t3, ?_, ?_, r3, r4⟩
        · rw [Nat.add_assoc, runNT_add, h2]; exact r1
        · rw [runN_add, ← runNT_fst (Program.mk T F2) _ _ t, h2]; exact r2
      | go f args v' hsp hs hn' he' ha hv hbl hmr =>
        subst ha
        obtain ⟨Spec, hC, hreal⟩ := hPh f args s.fr s.l v' R hsp hn' he'
        obtain ⟨val, v2, hS, hn2, he2, hs2⟩ := jump hT1 hn' he' hC
        obtain ⟨N1, gs1, w1, sl1, t1, q1, Shun1, B1, p1, p2⟩ := hreal Lo gs' w2 sl' t' q' Shun B' ⟨h3, hv.self, h4, h5, shun_step hH.shun hbl⟩
        have hH2 := p2 val v2 hS
        obtain ⟨N2, last, o, w3, t3, r1, r2, r3, r4⟩ := ih ⟨s.fr.finish val, s.l, v2⟩ (Relation.TransGen.trans hs2 (.single hs)) hn2 ⟨(hb.fr.finish val).1, hb.l⟩ he2 ((lastFn_of (finish_fn s.fr val) s.l v2 s.v).trans hlast) gs1 w1 sl1 t1 q1 Shun1 B1 hH2
        refine ⟨N + (N1 + N2), last, o, w3, t3, ?_, ?_, r3, r4⟩
        · rw [Nat.add_assoc, runNT_add, h2]
          show runNT (Program.mk T F2) (N1 + N2 + 1) _ _ = _
          rw [Nat.add_assoc, runNT_add, p1]
          exact r1
        · rw [runN_add, ← runNT_fst (Program.mk T F2) _ _ t, h2]
          show runN (Program.mk T F2) (N1 + N2) _ = _
          rw [runN_add, ← runNT_fst (Program.mk T F2) _ _ t', p1]
          exact r2
end
end Go.Veiled
