/-
  Chapter 12: SpectrumOf's phase beside its twin.
  Chapter 12: SpectrumOf's phase beside its twin.
  Chapter 12: from a law's walk over the twin to the run of the law itself.
-/
import Derived.Test.YtechkghnmgimbaaWkP
import Derived.Test.YtechkghnmgimbaaWkS
import Derived.Test.YtechkghnmgimbaaTwA

namespace Go.Proofs.Ytechkghnmgimbaa
open Go.Conc Go.ConcN Go.RowKit Go.Conc.Lib Go.ConcR.Gen Go.ConcN.Gen Plain Go.Veiled
open Go.ConcR (KK wgBlock WgAt stA smA rd wr mk Payload Aside2 DC0 ofEvent_cell)
set_option linter.unusedVariables false
set_option linter.unusedSimpArgs false
set_option linter.unusedSectionVars false

theorem crew_post {P : Program} {Shun Shun' : Loc → Prop} {Post Post' : Value → World → Prop} {I : Nat × Nat → Array Goroutine → World → Trace → Prop} (h : Crew P Shun Shun' Post I) (hp : ∀ v w, Post v w → Post' v w) : Crew P Shun Shun' Post' I where
  at_ := h.at_
  awake := h.awake
  wk := h.wk
  again := h.again
  starter := fun hI _ ha hr => by
    rcases h.starter hI ha hr with h1 | h1 | ⟨v, w', es, h1, h2, h3⟩
    · exact .inl h1
    · exact .inr (.inl h1)
    · exact .inr (.inr ⟨v, w', es, h1, hp _ _ h2, h3⟩)
  worker := h.worker
theorem ready_post {P : Program} {Lf : List FuncId} {Shun : Loc → Prop} {K : (Loc → Prop) → Prop} {Post Post' : Value → World → Prop} {cs : List Frame} {a : Goroutine} {w : World} (h : Ready P Lf Shun K Post cs a w) (hp : ∀ v w, Post v w → Post' v w) : Ready P Lf Shun K Post' cs a w := by
  obtain ⟨fr, k, e, hm, hk, S, P1, I1, I2, μ1, μ2, hK, C1, C2, i1, i2⟩ := h
  exact ⟨fr, k, e, hm, hk, S, P1, I1, I2, μ1, μ2, hK, C1, crew_post C2 hp, i1, i2⟩

/-- What was made is apart from what is shunned. -/
theorem dl_evl {Shun : Loc → Prop} {N Bd B : Nat} (hS : ∀ l, Shun l → ∃ a, l = .cell a ∧ a.block < N) (hB : Bd ≤ B) {w w' : World} {es : Array Event} (h : DL N Bd w w' es) : ∀ e ∈ es, Conc.EvL Shun B e := by
  intro e he
  obtain ⟨a, e1, h1, h2⟩ := h e he
  obtain ⟨loc, wr, at_⟩ := e
  cases e1
  refine ⟨fun x hx hs => ?_, fun hh => (by cases hh), fun hh => (by cases hh), ?_⟩
  · have hl : x.loc = .cell a := by
      simp [MemAct.ofEvent, MemAct.touch?] at hx
      rw [← hx]
    rw [hl] at hs
    obtain ⟨a', ha', hlt⟩ := hS _ hs
    cases ha'
    omega
  · show (MemAct.ofEvent ⟨.cell a, wr, at_⟩).low B
    show a.block < B
    omega

theorem blind_lt {v : World} {r : Nat} (h : Blind v r) : r < v.heap.size := by
  obtain ⟨e, f, h⟩ := blindObj_spec h
  exact (Array.getElem?_eq_some_iff.1 h).1
theorem pr_blind {v v2 : World} {bl : List Obj} (h : PR v bl v2) {r : Nat} (hb : Blind v r) : Blind v2 r := by
  unfold Blind at *
  rw [h.keep r (by exact blind_lt hb)]
  exact hb

theorem veil_of {Lo : Nat → Option Obj} {v w v2 w' : World} {n : Nat} (hv : Veil Lo (v.retape w.tape w.drawn) w) (o2 : v2.os = v.os) (o1 : w'.os = w.os) (p2 : v2.output = v.output) (p1 : w'.output = w.output) (s2 : v2.heap.size = v.heap.size + n) (s1 : w'.heap.size = w.heap.size + n)
    (k2 : ∀ b, b < v.heap.size → v2.heap[b]? = v.heap[b]?) (k1 : ∀ b, b < w.heap.size → w'.heap[b]? = w.heap[b]?)
    (hb : ∀ i, i < n → v2.heap[v.heap.size + i]? ≠ some (.coro none) ∧ (v2.heap[v.heap.size + i]? = w'.heap[v.heap.size + i]? ∨ ∃ e f c f', v2.heap[v.heap.size + i]? = some (.cells #[] e f) ∧ w'.heap[v.heap.size + i]? = some (.cells c e f'))) : Veil Lo (v2.retape w'.tape w'.drawn) w' := by
  have hz : v.heap.size = w.heap.size := hv.size
  have ho : v.os = w.os := hv.os
  have hp : v.output = w.output := hv.output
  have far : ∀ r, ¬ r < v.heap.size + n → v2.heap[r]? = none ∧ w'.heap[r]? = none := fun r h => ⟨Array.getElem?_eq_none (by omega), Array.getElem?_eq_none (by omega)⟩
  refine ⟨rfl, rfl, o2.trans (ho.trans o1.symm), p2.trans (hp.trans p1.symm), ?_, ?_, ?_, ?_⟩
  · show v2.heap.size = w'.heap.size
    omega
  · intro r hr
    have hr : v2.heap[r]? = some (.coro none) := hr
    by_cases h1 : r < v.heap.size
    · rw [k1 r (by omega)]
      exact hv.orig r ((k2 r h1).symm.trans hr)
    · by_cases h2 : r < v.heap.size + n
      · have := (hb (r - v.heap.size) (by omega)).1
        rw [show v.heap.size + (r - v.heap.size) = r from by omega] at this
        exact (this hr).elim
      · rw [(far r h2).1] at hr
        cases hr
  · intro r hr
    obtain ⟨h1, h2⟩ := hv.elder r hr
    have h1 : r < v.heap.size := h1
    refine ⟨show r < v2.heap.size from by omega, ?_⟩
    show v2.heap[r]? = w'.heap[r]? ∨ v2.heap[r]? = some (Obj.coro none)
    rw [k1 r (by omega), k2 r h1]
    exact h2
  · intro r
    show v2.heap[r]? = w'.heap[r]? ∨ (∃ e f c f', v2.heap[r]? = some (Obj.cells #[] e f) ∧ w'.heap[r]? = some (Obj.cells c e f')) ∨ ∃ l, v2.heap[r]? = some (Obj.coro none) ∧ w'.heap[r]? = some (Obj.loop l)
    by_cases h1 : r < v.heap.size
    · rw [k1 r (by omega), k2 r h1]
      exact hv.block r
    · by_cases h2 : r < v.heap.size + n
      · have := (hb (r - v.heap.size) (by omega)).2
        rw [show v.heap.size + (r - v.heap.size) = r from by omega] at this
        rcases this with h | h
        · exact .inl h
        · exact .inr (.inl h)
      · exact .inl (by rw [(far r h2).1, (far r h2).2])

/-- No table: nothing is hidden. -/
theorem Spc.veil_no {Lo : Nat → Option Obj} {v w v2 w' : World} {bl : List Obj} {X : Nat → Question → Nat} {d : Nat} (hv : Veil Lo (v.retape w.tape w.drawn) w) (h2 : PR (v.retape X d) bl v2) (h1 : PR w bl w') (hbl : ∀ i : Nat, bl[i]? ≠ some (Obj.coro none)) : Veil Lo (v2.retape w'.tape w'.drawn) w' := by
  have hz : v.heap.size = w.heap.size := hv.size
  refine veil_of hv h2.os h1.os h2.output h1.output h2.size h1.size h2.keep h1.keep fun i hi => ?_
  have e := List.getElem?_eq_getElem (l := bl) hi
  have a2 : v2.heap[v.heap.size + i]? = some bl[i] := h2.blk i _ e
  have a1 : w'.heap[w.heap.size + i]? = some bl[i] := h1.blk i _ e
  rw [← hz] at a1
  exact ⟨fun h => hbl i (e.trans (a2.symm.trans h)), .inl (a2.trans a1.symm)⟩

/-- The blocks that the prologue makes. -/
abbrev Wk.pro (parts : Array Value) (n a N M : Nat) : List Obj := [.cells parts 26, .cells #[.int .i64 n, .int .i64 a] 26, .cells #[.int .u64 a] 40, .cells #[.int .i64 n] 3, .cells #[.func (.func 39) #[] #[.pointer (some ⟨N + 2, 0, none⟩)]] 42, .cells (madeCells #[.int .i64 0] M) 3, .cells #[.slice (some ⟨N + 5, 0, none⟩) M M] 24, .cells #[.func (.func 55) #[] #[.pointer (some ⟨N + 3, 0, none⟩), .pointer (some ⟨N + 4, 0, none⟩), .pointer (some ⟨N + 6, 0, none⟩)]] 48, .cells #[.int .u64 0, .int .u32 0] 65]

theorem wg_cells {ty : TypeId} {r : Nat} {w : World} (h : WgLive ty r w) : ∃ c f, w.heap[r]? = some (.cells c ty f) := by
  obtain ⟨st, sm, h⟩ := h
  exact ⟨_, _, h⟩

/-- A table: but for the two functions' boxes and the group the memory is the same. -/
theorem Spc.veil_yes {Lo : Nat → Option Obj} {v w v2 w' W1 : World} {parts : Array Value} {n a M : Nat} {X : Nat → Question → Nat} {d : Nat} {u : Value} (hv : Veil Lo (v.retape w.tape w.drawn) w) (h2 : PR (v.retape X d) (Q.Spc.made parts n a v.heap.size M (spcV a) M M) v2) (h1 : PR w (Wk.pro parts n a w.heap.size M) W1) (hP : Wk.PostE (w.heap.size + 2) W1 M (spcV a) u w') :
    u = .slice (some ⟨v.heap.size + 5, 0, none⟩) M M ∧ Veil Lo (v2.retape w'.tape w'.drawn) w' := by
  have hz : v.heap.size = w.heap.size := hv.size
  obtain ⟨hu, hf, hc, hg⟩ := hP
  obtain ⟨cg, fg, hg⟩ := wg_cells hg
  refine ⟨by rw [hu, hz], ?_⟩
  have hs2 : v2.heap.size = v.heap.size + (9 + M) := by rw [h2.size, Q.Spc.made_len]; rfl
  have hs1 : w'.heap.size = w.heap.size + (9 + M) := by rw [hc.size]; omega
  have hkeep : ∀ b, b < w.heap.size + 9 → b ≠ w.heap.size + 5 → b ≠ w.heap.size + 8 → w'.heap[b]? = W1.heap[b]? := fun b e1 e2 e3 => hc.keep b (by omega) (by omega) (by omega)
  refine veil_of hv h2.os (hc.os.trans h1.os) h2.output (hc.output.trans h1.output) hs2 hs1 h2.keep (fun b hb => (hkeep b (by omega) (by omega) (by omega)).trans (h1.keep b hb)) fun i hi => ?_
  have real : ∀ j o, (Wk.pro parts n a w.heap.size M)[j]? = some o → j < 9 → j ≠ 5 → j ≠ 8 → w'.heap[v.heap.size + j]? = some o := by
    intro j o ho e1 e2 e3
    rw [hz, hkeep _ (by omega) (by omega) (by omega)]
    exact h1.blk j o ho
  have twin : ∀ j o, (Q.Spc.made parts n a v.heap.size M (spcV a) M M)[j]? = some o → v2.heap[v.heap.size + j]? = some o := fun j o ho => h2.blk j o ho
  by_cases h9 : i < 9
  · have : i = 0 ∨ i = 1 ∨ i = 2 ∨ i = 3 ∨ i = 4 ∨ i = 5 ∨ i = 6 ∨ i = 7 ∨ i = 8 := by omega
    rcases this with rfl | rfl | rfl | rfl | rfl | rfl | rfl | rfl | rfl
    · have t := twin 0 _ (Q.Spc.made_at parts n a v.heap.size M (spcV a) M M 0 _ (by omega) rfl)
      exact ⟨fun h => (by rw [t] at h; cases h), .inl (t.trans (real 0 _ rfl (by omega) (by omega) (by omega)).symm)⟩
    · have t := twin 1 _ (Q.Spc.made_at parts n a v.heap.size M (spcV a) M M 1 _ (by omega) rfl)
      exact ⟨fun h => (by rw [t] at h; cases h), .inl (t.trans (real 1 _ rfl (by omega) (by omega) (by omega)).symm)⟩
    · have t := twin 2 _ (Q.Spc.made_at parts n a v.heap.size M (spcV a) M M 2 _ (by omega) rfl)
      exact ⟨fun h => (by rw [t] at h; cases h), .inl (t.trans (real 2 _ rfl (by omega) (by omega) (by omega)).symm)⟩
    · have t := twin 3 _ (Q.Spc.made_at parts n a v.heap.size M (spcV a) M M 3 _ (by omega) rfl)
      exact ⟨fun h => (by rw [t] at h; cases h), .inl (t.trans (real 3 _ rfl (by omega) (by omega) (by omega)).symm)⟩
    · have t := twin 4 _ (Q.Spc.made_at parts n a v.heap.size M (spcV a) M M 4 _ (by omega) rfl)
      exact ⟨fun h => (by rw [t] at h; cases h), .inr ⟨_, _, _, _, t, real 4 _ rfl (by omega) (by omega) (by omega)⟩⟩
    · have t := twin 5 _ (Q.Spc.made_at parts n a v.heap.size M (spcV a) M M 5 _ (by omega) rfl)
      refine ⟨fun h => (by rw [t] at h; cases h), .inl (t.trans ?_)⟩
      have hf : w'.heap[w.heap.size + 2 + 3]? = some (.cells (Wk.vals (spcV a) M).toArray 3) := hf
      rw [← Wk.rowS_full] at hf
      rw [hz]
      exact hf.symm
    · have t := twin 6 _ (Q.Spc.made_at parts n a v.heap.size M (spcV a) M M 6 _ (by omega) rfl)
      refine ⟨fun h => (by rw [t] at h; cases h), .inl (t.trans ?_)⟩
      have r := real 6 _ rfl (by omega) (by omega) (by omega)
      rw [← hz] at r
      exact r.symm
    · have t := twin 7 _ (Q.Spc.made_at parts n a v.heap.size M (spcV a) M M 7 _ (by omega) rfl)
      exact ⟨fun h => (by rw [t] at h; cases h), .inr ⟨_, _, _, _, t, real 7 _ rfl (by omega) (by omega) (by omega)⟩⟩
    · have t := twin 8 _ (Q.Spc.made_at parts n a v.heap.size M (spcV a) M M 8 _ (by omega) rfl)
      rw [hz] at t ⊢
      exact ⟨fun h => (by rw [t] at h; cases h), .inr ⟨_, _, _, _, t, hg⟩⟩
  · obtain ⟨k, rfl⟩ : ∃ k, i = 9 + k := ⟨i - 9, by omega⟩
    have hk : k < M := by omega
    have t := twin (9 + k) (.cells #[.int .i64 k] 3) (by
      unfold Q.Spc.made
      rw [List.getElem?_append_right (by simp)]
      simp only [List.length_cons, List.length_nil, Nat.reduceAdd, Nat.add_sub_cancel_left]
      exact Wk.kbs_get _ hk)
    refine ⟨fun h => (by rw [t] at h; cases h), .inl (t.trans ?_)⟩
    have r := hc.kb k hk
    rw [show w.heap.size + 2 + 7 + k = v.heap.size + (9 + k) from by omega] at r
    exact r.symm

end Go.Proofs.Ytechkghnmgimbaa

namespace Go.Proofs.Ytechkghnmgimbaa
open Go.Conc Go.ConcN Go.RowKit Go.Conc.Lib Go.ConcR.Gen Go.ConcN.Gen Plain Go.Veiled
open Go.ConcR (KK wgBlock WgAt stA smA rd wr mk Payload Aside2 DC0 ofEvent_cell)
set_option linter.unusedVariables false
set_option linter.unusedSimpArgs false
set_option linter.unusedSectionVars false

def Spc.SpecY (parts : Array Value) (m b : Nat) (v : World) (val : Value) (v2 : World) : Prop := val = .slice (some ⟨v.heap.size + 5, 0, none⟩) (2 ^ m) (2 ^ m) ∧ ∃ X d, PR (v.retape X d) (Q.Spc.made parts m b v.heap.size (2 ^ m) (spcV b) (2 ^ m) (2 ^ m)) v2
def Spc.SpecN (parts : Array Value) (n a : Int) (v : World) (val : Value) (v2 : World) : Prop := val = .slice none 0 0 ∧ ∃ X d, PR (v.retape X d) [.cells parts 26, .cells #[.int .i64 n, .int .i64 a] 26] v2

set_option maxRecDepth 100000 in
theorem Spc.phase_yes (args parts : Array Value) (u1 u2 u3 u4 u5 u6 u7 u8 u9 u10 u11 u12 u13 : Value) (hargs : args ++ Array.replicate (14 - args.size) undef = #[.agg parts, u1, u2, u3, u4, u5, u6, u7, u8, u9, u10, u11, u12, u13]) (m b : Nat) (hp0 : parts[0]? = some (.int .i64 m)) (hp1 : parts[1]? = some (.int .i64 b)) (hm : m ≤ 5) (hb2 : (b : Int) ≤ 4294967295) (hIs : isT m b = true) (c : Frame) (l : List Frame) (v : World) (Lo : Nat → Option Obj) (gs : Array Goroutine) (w : World) (sl : Option (Nat × Nat)) (t : Trace) (q : Nat → Nat) (Shun : Loc → Prop) (B : Nat) (H : Held Lo Tq.T Try.prog.funcs (Frame.enter (Program.mk Tq.T Try.prog.funcs) 14 args .normal) (c :: l) v gs w t q Shun B) :
    ∃ (N : Nat) (gs' : Array Goroutine) (w' : World) (sl' : Option (Nat × Nat)) (t' : Trace) (q' : Nat → Nat) (Shun' : Loc → Prop) (B' : Nat),
      runNT (Program.mk Tq.T Try.prog.funcs) N (crowd gs w sl) t = (.next (crowd gs' w' sl'), t') ∧ ∀ val v2, Spc.SpecY parts m b v val v2 → Held Lo Tq.T Try.prog.funcs (c.finish val) l v2 gs' w' t' q' Shun' B' := by
  obtain ⟨k1, hyes⟩ := Wk.prologue
  have hvs : v.heap.size = w.heap.size := H.veil.size
  have hS : ∀ l, Shun l → ∃ a, l = .cell a ∧ a.block < w.heap.size := fun l hl => by
    obtain ⟨a, e, hb⟩ := H.shun l hl
    exact ⟨a, e, hvs ▸ blind_lt hb⟩
  have hE : Wk.Elder Shun (w.heap.size + 2) := fun l hl => by
    obtain ⟨a, e, hb⟩ := hS l hl
    exact ⟨a, e, by omega⟩
  have H' : Held Lo Tq.T Try.prog.funcs (Frame.enter (Program.mk Tq.T Try.prog.funcs) 14 args .normal) (c :: l) v gs w t q Shun (max B (w.heap.size + 20)) := ⟨H.g0, H.veil, H.leavers, H.past.mono (Nat.le_max_left _ _), H.shun⟩
  refine phase_held (Lf := Tq.calls) (K := fun S' => S' = ShN (w.heap.size + 2 + 6)) (Post := fun u w' => ∃ W1, PR w (Wk.pro parts m b w.heap.size (2 ^ m)) W1 ∧ Wk.PostE (w.heap.size + 2) W1 (2 ^ m) (spcV b) u w') (D := DL w.heap.size (w.heap.size + 20)) (n0 := k1) Tq.mild Tq.no_init sl H' (fun w1 w2 es h => dl_evl hS (Nat.le_max_right _ _) h) ?_ ?_ ?_ ?_
  · rintro S rfl val v2 ⟨_, X, d, hp⟩ x ⟨ad, rfl, hbk⟩
    refine ⟨ad, rfl, ?_⟩
    have t := hp.blk 8 _ (Q.Spc.made_at parts m b v.heap.size (2 ^ m) (spcV b) (2 ^ m) (2 ^ m) 8 _ (by omega) rfl)
    have t : v2.heap[v.heap.size + 8]? = some (.cells #[] 65) := t
    rw [hvs, show w.heap.size + 8 = ad.block from by omega] at t
    unfold Blind
    rw [t]
    rfl
  · rintro val v2 ⟨_, X, d, hp⟩ r hr
    exact pr_blind hp hr
  · rintro u w' ⟨W1, hW, hP⟩ val v2 ⟨rfl, X, d, hp⟩
    exact Spc.veil_yes H.veil hp hW hP
  · refine goes_mono ?_ (hyes w args parts u1 u2 u3 u4 u5 u6 u7 u8 u9 u10 u11 u12 u13 hargs m b c l hp0 hp1 hm hb2 hIs)
    rintro g w1 ⟨T, T1, T2, h2, rfl, hH, hW⟩
    exact ready_post (Wk.ready17 hE hH h2 (c :: l)) fun u w' h => ⟨w1, hW, h⟩

set_option maxRecDepth 100000 in
theorem Spc.phase_no (args parts : Array Value) (u1 u2 u3 u4 u5 u6 u7 u8 u9 u10 u11 u12 u13 : Value) (hargs : args ++ Array.replicate (14 - args.size) undef = #[.agg parts, u1, u2, u3, u4, u5, u6, u7, u8, u9, u10, u11, u12, u13]) (n a : Int) (hp0 : parts[0]? = some (.int .i64 n)) (hp1 : parts[1]? = some (.int .i64 a)) (hnr : -9223372036854775808 ≤ n ∧ n ≤ 9223372036854775807) (har : -9223372036854775808 ≤ a ∧ a ≤ 9223372036854775807) (hIs : isT n a = false) (c : Frame) (l : List Frame) (v : World) (Lo : Nat → Option Obj) (gs : Array Goroutine) (w : World) (sl : Option (Nat × Nat)) (t : Trace) (q : Nat → Nat) (Shun : Loc → Prop) (B : Nat) (H : Held Lo Tq.T Try.prog.funcs (Frame.enter (Program.mk Tq.T Try.prog.funcs) 14 args .normal) (c :: l) v gs w t q Shun B) :
    ∃ (N : Nat) (gs' : Array Goroutine) (w' : World) (sl' : Option (Nat × Nat)) (t' : Trace) (q' : Nat → Nat) (Shun' : Loc → Prop) (B' : Nat),
      runNT (Program.mk Tq.T Try.prog.funcs) N (crowd gs w sl) t = (.next (crowd gs' w' sl'), t') ∧ ∀ val v2, Spc.SpecN parts n a v val v2 → Held Lo Tq.T Try.prog.funcs (c.finish val) l v2 gs' w' t' q' Shun' B' := by
  obtain ⟨k0, hno⟩ := Wk.prologue_no
  have hvs : v.heap.size = w.heap.size := H.veil.size
  have hS : ∀ l, Shun l → ∃ a, l = .cell a ∧ a.block < w.heap.size := fun l hl => by
    obtain ⟨a, e, hb⟩ := H.shun l hl
    exact ⟨a, e, hvs ▸ blind_lt hb⟩
  obtain ⟨N1, gs1, a1, w1, sl1, t1, q1, hr, hsz, hg0, ⟨rfl, hW⟩, hL1, hP1⟩ := walk_beside (B := max B (w.heap.size + 20)) (fun w1 w2 es h => dl_evl hS (Nat.le_max_right B _) h) _ k0 gs _ w sl t q (Nat.le_refl _) H.g0 H.leavers (H.past.mono (Nat.le_max_left _ _)) (hno w args parts u1 u2 u3 u4 u5 u6 u7 u8 u9 u10 u11 u12 u13 hargs n a c l hp0 hp1 har hIs)
  refine ⟨N1, gs1, w1, sl1, t1, q1, Shun, max B (w.heap.size + 20), hr, ?_⟩
  rintro val v2 ⟨rfl, X, d, hp⟩
  refine ⟨hg0, Spc.veil_no H.veil hp hW fun i h => ?_, hL1, hP1, fun x hx => ?_⟩
  · match i, h with
    | 0, h => cases h
    | 1, h => cases h
    | i + 2, h => cases h
  · obtain ⟨ad, e, hb⟩ := H.shun x hx
    exact ⟨ad, e, pr_blind hp hb⟩

end Go.Proofs.Ytechkghnmgimbaa
