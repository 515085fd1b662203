/-
  Chapter 12: both phases; from a law's walk over the twin to the run of the law itself.
-/
import Derived.Test.YtechkghnmgimbaaWkX
import Derived.Test.YtechkghnmgimbaaAkX
import Derived.Conc.LeavingOf
import Derived.ChangeFn
namespace Go.Proofs.Ytechkghnmgimbaa
open Go.Conc Go.ConcN Go.RowKit Go.Conc.Lib Go.ConcR.Gen Go.ConcN.Gen Plain Go.Veiled
open Go.ConcR (KK wgBlock WgAt stA smA rd wr mk Payload Aside2 DC0 ofEvent_cell)
set_option linter.unusedVariables false
set_option linter.unusedSimpArgs false
set_option linter.unusedSectionVars false

set_option maxRecDepth 100000 in
/-- The phases of SpectrumOf and of AutocorrelationOf. -/
theorem Spc.phase : PhaseOK Tq.T Tq.fs Try.prog.funcs Tq.special := by
  intro f args c l v R hf hn he
  rcases hf with rfl | rfl
  · obtain ⟨parts, n, a, u1, u2, u3, u4, u5, u6, u7, u8, u9, u10, u11, u12, u13, hargs, hp0, hp1, hnr, har⟩ := Spc.shape hn he
    by_cases hIs : isT n a = true
    · obtain ⟨m, b, rfl, rfl, hm, hb⟩ := isT_nat hIs
      have hb2 : (b : Int) ≤ 4294967295 := by
        have := fullN_le m hm
        omega
      refine ⟨Spc.SpecY parts m b v, fun X d => ?_, fun Lo gs w sl t q Shun B H => Spc.phase_yes args parts u1 u2 u3 u4 u5 u6 u7 u8 u9 u10 u11 u12 u13 hargs m b hp0 hp1 hm hb2 hIs c l v Lo gs w sl t q Shun B H⟩
      refine (Q.Spc.twin_yes args parts u1 u2 u3 u4 u5 u6 u7 u8 u9 u10 u11 u12 u13 hargs m b hp0 hp1 hm hb2 hIs (v.retape X d)).mono ?_
      rintro e w' ⟨rfl, hp⟩
      exact ⟨_, rfl, rfl, X, d, hp⟩
    · have hIs : isT n a = false := by simpa using hIs
      refine ⟨Spc.SpecN parts n a v, fun X d => ?_, fun Lo gs w sl t q Shun B H => Spc.phase_no args parts u1 u2 u3 u4 u5 u6 u7 u8 u9 u10 u11 u12 u13 hargs n a hp0 hp1 hnr har hIs c l v Lo gs w sl t q Shun B H⟩
      refine (Q.Spc.twin_no args parts u1 u2 u3 u4 u5 u6 u7 u8 u9 u10 u11 u12 u13 hargs n a hp0 hp1 hnr har hIs (v.retape X d)).mono ?_
      rintro e w' ⟨rfl, hp⟩
      exact ⟨_, rfl, rfl, X, d, hp⟩
  · obtain ⟨parts, n, a, u1, u2, u3, u4, u5, u6, u7, u8, u9, u10, u11, u12, u13, hargs, hp0, hp1, hnr, har⟩ := Aut.shape hn he
    by_cases hIs : isT n a = true
    · obtain ⟨m, b, rfl, rfl, hm, hb⟩ := isT_nat hIs
      have hb2 : (b : Int) ≤ 4294967295 := by
        have := fullN_le m hm
        omega
      refine ⟨Aut.SpecY parts m b v, fun X d => ?_, fun Lo gs w sl t q Shun B H => Aut.phase_yes args parts u1 u2 u3 u4 u5 u6 u7 u8 u9 u10 u11 u12 u13 hargs m b hp0 hp1 hm hb2 hIs c l v Lo gs w sl t q Shun B H⟩
      refine (Q.Aut.twin_yes args parts u1 u2 u3 u4 u5 u6 u7 u8 u9 u10 u11 u12 u13 hargs m b hp0 hp1 hm hb2 hIs (v.retape X d)).mono ?_
      rintro e w' ⟨rfl, hp⟩
      exact ⟨_, rfl, rfl, X, d, hp⟩
    · have hIs : isT n a = false := by simpa using hIs
      refine ⟨Aut.SpecN parts n a v, fun X d => ?_, fun Lo gs w sl t q Shun B H => Aut.phase_no args parts u1 u2 u3 u4 u5 u6 u7 u8 u9 u10 u11 u12 u13 hargs n a hp0 hp1 hnr har hIs c l v Lo gs w sl t q Shun B H⟩
      refine (Q.Aut.twin_no args parts u1 u2 u3 u4 u5 u6 u7 u8 u9 u10 u11 u12 u13 hargs n a hp0 hp1 hnr har hIs (v.retape X d)).mono ?_
      rintro e w' ⟨rfl, hp⟩
      exact ⟨_, rfl, rfl, X, d, hp⟩

end Go.Proofs.Ytechkghnmgimbaa

namespace Go.Proofs.Ytechkghnmgimbaa
open Go.Conc Go.ConcN Go.RowKit Go.Veiled
set_option linter.unusedVariables false
set_option linter.unusedSimpArgs false

/-- No state of a range over a function. -/
def quietObj : Obj → Obj
  | .loop _ => .coro none
  | o => o
def quiet (W : World) : World := { W with heap := W.heap.map quietObj }
theorem quiet_at (W : World) (r : Nat) : (quiet W).heap[r]? = (W.heap[r]?).map quietObj := by simp [quiet]
theorem quiet_noLoop (W : World) : NoLoop (quiet W) := by
  intro r o h
  rw [quiet_at] at h
  rcases hw : W.heap[r]? with _ | x
  · rw [hw] at h
    cases h
  · rw [hw] at h
    cases h
    cases x <;> trivial
theorem quiet_veil (W : World) : Veil (fun r => W.heap[r]?) ((quiet W).retape W.tape W.drawn) W := by
  refine ⟨rfl, rfl, rfl, rfl, by simp [quiet, World.retape], fun r _ => rfl, fun r hr => ?_, fun r => ?_⟩
  · rcases hw : W.heap[r]? with _ | x
    · exact (hr hw).elim
    refine ⟨by have := (Array.getElem?_eq_some_iff.1 hw).1; simpa [quiet, World.retape] using this, ?_⟩
    show (quiet W).heap[r]? = some x ∨ (quiet W).heap[r]? = some (Obj.coro none)
    rw [quiet_at, hw]
    cases x
    case loop l => exact .inr rfl
    all_goals exact .inl rfl
  show (quiet W).heap[r]? = W.heap[r]? ∨ (∃ e f c f', (quiet W).heap[r]? = some (Obj.cells #[] e f) ∧ W.heap[r]? = some (Obj.cells c e f')) ∨ ∃ l, (quiet W).heap[r]? = some (Obj.coro none) ∧ W.heap[r]? = some (Obj.loop l)
  rw [quiet_at]
  rcases hw : W.heap[r]? with _ | x
  · exact .inl rfl
  · cases x
    case loop l => exact .inr (.inr ⟨l, rfl, rfl⟩)
    all_goals exact .inl rfl

/-- What the twin left alone is left alone. -/
theorem quiet_below {W v' w' : World} {X : Nat → Question → Nat} {d : Nat} {n : Nat} (hn : n ≤ W.heap.size) (hb : Below n ((quiet W).retape X d) v') (hv : Veil (fun r => W.heap[r]?) (v'.retape w'.tape w'.drawn) w') : Below n W (w'.retape W.tape w'.drawn) := by
  have hz : (quiet W).heap.size = W.heap.size := by simp [quiet]
  refine ⟨hv.os.symm.trans hb.os, rfl, hv.output.symm.trans hb.output, ?_, fun r hr => ?_⟩
  · have h1 : (quiet W).heap.size ≤ v'.heap.size := hb.size
    have h2 : v'.heap.size = w'.heap.size := hv.size
    show W.heap.size ≤ w'.heap.size
    omega
  · show w'.heap[r]? = W.heap[r]?
    have h1 : v'.heap[r]? = (quiet W).heap[r]? := hb.block r hr
    rw [quiet_at] at h1
    have hlt : r < W.heap.size := by omega
    have hw : W.heap[r]? = some W.heap[r] := Array.getElem?_eq_getElem hlt
    rw [hw] at h1
    rcases (hv.elder r (by rw [hw]; simp)).2 with e | e
    · have e : v'.heap[r]? = w'.heap[r]? := e
      rw [← e, h1, hw]
      cases ho : W.heap[r]
      case loop l =>
        rw [ho] at h1 hw
        have := hv.orig r h1
        have e2 : w'.heap[r]? = W.heap[r]? := this
        rw [← e, h1, hw] at e2
        cases e2
      all_goals rfl
    · exact hv.orig r e

/-- A law's walk over the twin, from every world: the law's own run ends well. -/
theorem leave_run {f0 : FuncId} {fn0 : Func} {k0 : Tmp} (hf1 : Tq.fs[f0]? = some fn0) (hf2 : Try.prog.funcs[f0]? = some fn0) (hres : fn0.results = #[.tmp k0]) (hinit : Try.prog.inits.idxOf? f0 = none) {args : Array Value} {W : World} {val0 : Value} {Post : Value → World → Prop}
    (hC : ∀ w, Calls Tq.prog f0 args w fun e w' => e = .returned val0 ∧ Below w.heap.size w w') (hP : ∀ w', Below W.heap.size W (w'.retape W.tape w'.drawn) → Post val0 w') :
    ∃ M last o w' t', runNT Try.prog (M + 1) (solo (G (Frame.enter Try.prog f0 args .normal) []) W) #[] = (.ended o w', t') ∧ runN Try.prog M (solo (G (Frame.enter Try.prog f0 args .normal) []) W) = .next last ∧ step Try.prog last = .ended o w' ∧ Conc.Good Try.prog Post last o w' t' := by
  have hz : (quiet W).heap.size = W.heap.size := by simp [quiet]
  obtain ⟨M, last, o, w', t', h1, h2, h3, h4⟩ := whole_run (R := fun val w' => val = val0 ∧ ∃ X d, Below W.heap.size ((quiet W).retape X d) w') Tq.twin Tq.twin_self Spc.phase hf1 hf2 hres hinit (quiet_noLoop W) (quiet_veil W) (fun X d => (hC ((quiet W).retape X d)).mono fun e w' h => ⟨_, h.1, rfl, X, d, hz ▸ h.2⟩)
  refine ⟨M, last, o, w', t', h1, h2, h3, h4.mono fun v hv => ?_⟩
  obtain ⟨v', X, d, ⟨rfl, X', d', hb⟩, hvl⟩ := hv
  exact hP _ (quiet_below (v' := v'.retape X d) (Nat.le_refl _) hb hvl)

section
variable {H : Type} {enc : TypeId × Value → H}
/-- A row's end says nothing of the draws. -/
theorem post_retape {P : Program} {f : Func} {s : ChangeSpec} {apart fresh handsOn : Bool} {W W' : World} {args : Array Value} {v : Value} {X : Nat → Question → Nat} {d : Nat}
    (h : s.post enc P f apart fresh handsOn false W args v (W'.retape X d)) : s.post enc P f apart fresh handsOn false W args v W' := by
  obtain ⟨ds, gs, before, pr, pa, pv, h1, h2, h3, h4, h5, h6⟩ := h
  exact ⟨ds, gs, before, pr, pa, pv, h1, h2.of_heap (by rfl), h3.of_heap (by rfl), h4.of_heap (by rfl), h5, fun ha => by cases ha⟩
end
end Go.Proofs.Ytechkghnmgimbaa
