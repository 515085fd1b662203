/-
  The twin is a twin.
  What the starter calls is mild.
-/
import Derived.Test.YtechkghnmgimbaaTq
import Derived.Test.YtechkghnmgimbaaGoX

namespace Go.Proofs.Tq
open Go.Veiled

noncomputable abbrev T : Tables := Try.prog.toTables
def special (f : FuncId) : Prop := f = 14 ∨ f = 26
def okFn (p : Program) (fn : Func) : Bool := (fn.name != "runtime.NumGoroutine") && match fn.body with | some (.refuse _) => true | some c => codeOk p c | none => false

theorem all_ok : Tq.fs.toList.all (okFn Tq.prog) = true := by decide +kernel
theorem names2 : (Try.prog.funcs.toList.all fun fn => fn.name != "runtime.NumGoroutine") = true := by decide +kernel
theorem ahead : (Program.mk T Tq.fs).follows .staticDataAhead = true := by decide +kernel
theorem no_steps : (Tq.fs.toList.all fun fn => fn.body.isSome) = true := by decide +kernel

theorem fs_get (f : FuncId) : Tq.fs[f]? = (Try.prog.funcs[f]?).map (Tq.mend f) := by
  unfold Tq.fs
  simp

theorem ok_of {f : FuncId} {fn : Func} (h : Tq.fs[f]? = some fn) : (fn.name == "runtime.NumGoroutine") = false ∧ ∃ c, fn.body = some c ∧ ((∃ why, c = .refuse why) ∨ codeOk (Program.mk T Tq.fs) c = true) := by
  have := List.all_eq_true.1 all_ok fn (by
    obtain ⟨hi, rfl⟩ := Array.getElem?_eq_some_iff.1 h
    simp)
  unfold okFn at this
  rw [Bool.and_eq_true] at this
  refine ⟨by simpa using this.1, ?_⟩
  have h2 := this.2
  split at h2
  · rename_i why hb; exact ⟨_, hb, .inl ⟨why, rfl⟩⟩
  · rename_i c _ hb; exact ⟨_, hb, .inr h2⟩
  · cases h2

theorem mend_of {f : FuncId} {fn2 : Func} (hs : ¬ special f) : Tq.mend f fn2 = fn2 ∨ ∃ c, (Tq.mend f fn2).body = some (.refuse c) := by
  have h1 : ¬ f = 14 := fun e => hs (.inl e)
  have h2 : ¬ f = 26 := fun e => hs (.inr e)
  unfold Tq.mend
  rw [if_neg h1, if_neg h2]
  split
  · split
    · exact .inl rfl
    · exact .inr ⟨_, rfl⟩
  · exact .inr ⟨_, rfl⟩

theorem step_of_none {p : Program} (h : (p.funcs.toList.all fun fn => match fn.body with | some c => (readies c).isEmpty | none => true) = true) (g : Nat) : p.stepOf g = none := by
  unfold Program.stepOf
  rw [Array.findIdx?_eq_none_iff]
  intro fn hfn
  have := List.all_eq_true.1 h fn (by simpa using hfn)
  cases hb : fn.body with
  | none => rfl
  | some c =>
    rw [hb] at this
    simp only at this
    have e : readies c = [] := by simpa using this
    simp [e]
theorem ready1 : ((Program.mk T Tq.fs).funcs.toList.all fun fn => match fn.body with | some c => (readies c).isEmpty | none => true) = true := by decide +kernel
theorem ready2 : (Try.prog.funcs.toList.all fun fn => match fn.body with | some c => (readies c).isEmpty | none => true) = true := by decide +kernel

theorem name2 {f : FuncId} {fn : Func} (h : Try.prog.funcs[f]? = some fn) : (fn.name == "runtime.NumGoroutine") = false := by
  have := List.all_eq_true.1 names2 fn (by
    obtain ⟨hi, rfl⟩ := Array.getElem?_eq_some_iff.1 h
    simp)
  simpa using this

theorem twin : Veiled.Twin T Tq.fs Try.prog.funcs special where
  ahead := ahead
  step := step_of_none ready1
  fns := by
    intro f fn h
    obtain ⟨h1, c, hc, h2⟩ := ok_of h
    rw [fs_get] at h
    obtain ⟨fn2, hf2, rfl⟩ := Option.map_eq_some_iff.1 h
    refine ⟨h1, c, hc, fn2, hf2, name2 hf2, ?_⟩
    by_cases hs : special f
    · exact .inr (.inl hs)
    · rcases mend_of (fn2 := fn2) hs with e | ⟨why, e⟩
      · rcases h2 with h2 | h2
        · exact .inl h2
        · exact .inr (.inr ⟨e.symm, h2⟩)
      · rw [e] at hc
        exact .inl ⟨why, (Option.some.inj hc).symm⟩
  own := by
    intro f fn fn2 _ h2 hs
    rcases hs with rfl | rfl
    · rw [Try.func14] at h2
      cases h2
      exact ⟨_, rfl⟩
    · rw [Try.func26] at h2
      cases h2
      exact ⟨_, rfl⟩

theorem twin_self : Veiled.Twin T Tq.fs Tq.fs (fun _ => False) where
  ahead := ahead
  step := step_of_none ready1
  fns := by
    intro f fn h
    obtain ⟨h1, c, hc, h2⟩ := ok_of h
    refine ⟨h1, c, hc, fn, h, h1, ?_⟩
    rcases h2 with h2 | h2
    · exact .inl h2
    · exact .inr (.inr ⟨rfl, h2⟩)
  own := fun f fn fn2 _ _ h => h.elim
end Go.Proofs.Tq

namespace Go.Proofs.Tq
open Go.Veiled

/-- What SpectrumOf, AutocorrelationOf and what they call call, go statements aside. -/
def calls : List FuncId := [14, 26, 37, 53, 54, 65, 38, 44, 49, 59, 61, 62, 70, 71, 72, 73, 74, 75, 76, 77, 78, 79, 80, 81, 82, 83, 84, 85, 86, 87, 89, 90, 91, 92, 93]
def mildFn (p : Program) (L : List FuncId) (f : FuncId) : Bool := match p.funcs[f]? with
  | none => false
  | some fn => (fn.name != "runtime.NumGoroutine") && match fn.body with | some c => codeMild L c | none => (Extern.findNext fn).isNone
theorem all_mild : calls.all (mildFn Try.prog calls) = true := by decide +kernel
theorem mild : MildP (Program.mk T Try.prog.funcs) calls where
  ahead := by decide +kernel
  step := step_of_none ready2
  fns := by
    intro f hf
    have := List.all_eq_true.1 all_mild f hf
    unfold mildFn at this
    cases h : Try.prog.funcs[f]? with
    | none => rw [h] at this; cases this
    | some fn =>
      rw [h] at this
      simp only [Bool.and_eq_true] at this
      refine ⟨fn, rfl, by simpa using this.1, fun c hc => ?_, fun hc => ?_⟩
      · have h2 := this.2
        rw [hc] at h2
        exact h2
      · have h2 := this.2
        rw [hc] at h2
        simpa using h2
theorem no_init : (Program.mk T Try.prog.funcs).inits.idxOf? (Program.mk T Try.prog.funcs).funcs.size = none := by decide +kernel
end Go.Proofs.Tq
