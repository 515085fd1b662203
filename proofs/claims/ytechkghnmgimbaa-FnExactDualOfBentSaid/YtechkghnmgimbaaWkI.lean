/-
  Chapter 12, in company: the frames below; the crew.
  Chapter 12, in company: at the head of atSameTime's loop all is ready.
-/
import Derived.Test.YtechkghnmgimbaaWkB
import Derived.Test.YtechkghnmgimbaaTqT

namespace Go.Proofs.Ytechkghnmgimbaa
open Go.Conc Go.ConcN Go.RowKit Go.Conc.Lib Go.ConcR.Gen Go.ConcN.Gen Plain Go.Veiled
open Go.ConcR (KK wgBlock WgAt stA smA rd wr mk Payload Aside2 DC0 ofEvent_cell)
set_option linter.unusedVariables false
set_option linter.unusedSimpArgs false
set_option linter.unusedSectionVars false

noncomputable def Wk.body17 : Code := Try.f14.body.getD .skip
noncomputable def Wk.ops4 : Array Oper := match Wk.body17 with | .seq _ (.seq _ (.seq _ (.seq (.region _ ops _) _))) => ops | _ => #[]
/-- The frame of SpectrumOf, waiting for sumsOfSets. -/
noncomputable def Wk.c17 (T : Array Value) : Frame := (base 14).at ⟨T, []⟩ (.inRegion Wk.ops4 (3 :: [4]) :: [.code .ret])
/-- What is said at the return. -/
def Wk.PostE (B : Nat) (W : World) (n : Nat) (tv : Nat → Nat → Int) (v : Value) (w' : World) : Prop := v = .slice (some ⟨B + 3, 0, none⟩) n n ∧ Full (B + 3) (Wk.vals tv n) w' ∧ Wk.FE B W n w' ∧ WgLive 65 (B + 6) w'

section
variable {S : Loc → Prop} {B : Nat} {W : World} {n m a e : Nat} {tv : Nat → Nat → Int} {Post : Value → World → Prop} {T2 : Array Value}
theorem Wk.stepC {Stop : Goroutine → World → Prop} {k j Low : Nat} {g g' : Goroutine} {w : World} {X : World → Prop} (hX : ∀ w w₁, X w → RC 65 (B + 6) (B + 3) w w₁ → X w₁) (hr : g.status = .running) (hs : ∀ w, stepG Try.prog true g w = .go g' w #[])
    (h : ∀ w, X w → Goes Try.prog true (RC 65 (B + 6) (B + 3)) (DP (B + 6) (Wk.Own S B) (Wk.Rd B) j Low) Stop k g' w) (hx : X w) : Goes Try.prog true (RC 65 (B + 6) (B + 3)) (DP (B + 6) (Wk.Own S B) (Wk.Rd B) j Low) Stop (k + 1) g w := by
  refine Goes.step hr fun w₁ h₁ => ?_
  rw [hs]
  exact ⟨⟨fun _ _ => rfl, fun e he => by simp at he⟩, h _ (hX _ _ hx h₁)⟩

abbrev Wk.X (B : Nat) (W : World) (n : Nat) (w : World) : Prop := Wk.FE B W n w ∧ WgLive 65 (B + 6) w

set_option maxRecDepth 100000 in
/-- SpectrumOf returns to whom it was called by. -/
theorem Wk.ends17 {c : Frame} {cs : List Frame} (h2 : T2.size = 14) (hE : Wk.Ends S B W n tv Post c cs e) : Wk.Ends S B W n tv Post (Wk.c17 T2) (c :: cs) (e + 4) := by
  intro w hf hl
  have hF := And.intro hf hl
  obtain ⟨v0, v1, v2, v3, v4, v5, v6, v7, v8, v9, v10, v11, v12, v13, rfl⟩ := Wk.array14 T2 h2
  have e1 : (Wk.c17 #[v0, v1, v2, v3, v4, v5, v6, v7, v8, v9, v10, v11, v12, v13]).finish (.slice (some ⟨B + 3, 0, none⟩) n n) = (base 14).at ⟨#[v0, v1, v2, v3, v4, v5, v6, v7, v8, v9, v10, v11, v12, .slice (some ⟨B + 3, 0, none⟩) n n], []⟩ (.inRegion Wk.ops4 [4] :: [.code .ret]) := by
    unfold Wk.c17
    rw [Frame.finish_at]
    rfl
  rw [e1]
  simp only [Wk.ops4, Wk.body17, Try.f14, Option.getD_some]
  try walk_nrm
  u_op ci_rely hF
  u_c stepG_region_end ci_rely hF
  u_c stepG_ret' ci_rely hF
  u_in ci_rely hF
  rw [stepG_leave (v := .slice (some ⟨B + 3, 0, none⟩) n n) rfl rfl Try.func14 (by simp [results, Try.f14]) (by simp [results, Try.f14])]
  simp only [goes_go]
  refine ⟨by u_nil, ?_⟩
  exact hE _ hF.1 hF.2

/-- Into the sill. -/
theorem Wk.endsSill (hi : Try.prog.inits.idxOf? Try.prog.funcs.size = none) : Wk.Ends S B W n tv (Wk.PostE B W n tv) (sill Try.prog) [] 2 := by
  intro w hf hl
  refine Wk.stepC (X := Wk.X B W n) (fun _ _ h r => ci_rely h r) rfl (fun w => run_empty _ _ _ rfl rfl _ _) (fun w hF => ?_) ⟨hf, hl⟩
  refine Wk.stepC (X := Wk.X B W n) (fun _ _ h r => ci_rely h r) rfl (fun w => run_leave _ rfl rfl rfl _ _) (fun w hF => ?_) hF
  refine Goes.stop fun w₂ r₂ => ⟨rfl, fun hfull => ⟨_, #[], run_end _ rfl rfl rfl rfl hi _, by simp, rfl, hfull, (ci_rely hF r₂).1, (ci_rely hF r₂).2⟩⟩

/-- Into the lobby, and out by the door. -/
theorem Wk.endsLobby (hi : Try.prog.inits.idxOf? Try.prog.funcs.size = none) : Wk.Ends S B W n tv (fun _ _ => True) (lobby Try.prog) [door Try.prog] 5 := by
  intro w hf hl
  refine Wk.stepC (X := fun _ => True) (fun _ _ h r => trivial) rfl (fun w => run_empty _ _ _ rfl rfl _ _) (fun w hF => ?_) trivial
  refine Wk.stepC (X := fun _ => True) (fun _ _ h r => trivial) rfl (fun w => run_leave _ rfl rfl rfl _ _) (fun w hF => ?_) trivial
  refine Wk.stepC (X := fun _ => True) (fun _ _ h r => trivial) rfl (fun w => run_pop _ _ _ rfl rfl rfl rfl _) (fun w hF => ?_) trivial
  refine Goes.step rfl fun w₁ h₁ => ?_
  obtain ⟨s, d, h⟩ := door_in (P := Try.prog) w₁
  show (stepG Try.prog true (G ((door Try.prog).finish (.string .empty)) []) w₁).goes _
  rw [h]
  refine ⟨⟨fun _ _ => rfl, fun e he => by simp at he⟩, ?_⟩
  refine Wk.stepC (X := fun _ => True) (fun _ _ h r => trivial) rfl (fun w => run_leave _ rfl rfl rfl _ _) (fun w hF => ?_) trivial
  exact Goes.stop fun w₂ r₂ => ⟨rfl, fun hfull => ⟨_, #[], run_end _ rfl rfl rfl rfl hi _, by simp, trivial⟩⟩
end

end Go.Proofs.Ytechkghnmgimbaa

namespace Go.Proofs.Ytechkghnmgimbaa
open Go.Conc Go.ConcN Go.RowKit Go.Conc.Lib Go.ConcR.Gen Go.ConcN.Gen Plain Go.Veiled
open Go.ConcR (KK wgBlock WgAt stA smA rd wr mk Payload Aside2 DC0 ofEvent_cell)
set_option linter.unusedVariables false
set_option linter.unusedSimpArgs false
set_option linter.unusedSectionVars false

theorem Wk.vals_len (tv : Nat → Nat → Int) (n : Nat) : (Wk.vals tv n).length = n := by simp [Wk.vals]
theorem Wk.vals_get (tv : Nat → Nat → Int) (n i : Nat) (h : i < n) : (Wk.vals tv n)[i]? = some (Wk.val tv n i) := by simp [Wk.vals, h]
theorem Wk.no_elder (B : Nat) : Wk.Elder (fun _ => False) B := fun _ h => h.elim

/-- What holds at the head of the loop. -/
structure Wk.Head (tf : FuncId) (B n m a : Nat) (W : World) (T T1 : Array Value) : Prop where
  ha : (a : Int) ≤ 4294967295
  hm : m ≤ 5
  hn : n = 2 ^ m
  kn : Kn tf B n m a W
  size : W.heap.size = B + 7
  wg : WgAt 65 (B + 6) W 0 0
  pay : PayAt (B + 3) n W
  t : T.size = 14
  t3 : T[3]? = some (.pointer (some ⟨B + 5, 0, none⟩))
  t4 : T[4]? = some (.pointer (some ⟨B + 6, 0, none⟩))
  t6 : T[6]? = some (.int .i64 n)
  t7 : T[7]? = some (.int .i64 (0 : Nat))
  t1 : T1.size = 14
  t15 : T1[5]? = some (.pointer (some ⟨B + 4, 0, none⟩))

section
variable {S : Loc → Prop} {B : Nat} {W : World} {n m a e : Nat} {tv : Nat → Nat → Nat → Int} {Post : Value → World → Prop} {T T1 : Array Value} {c : Frame} {cs : List Frame} {tf : FuncId}
theorem Wk.Head.ci (h : Wk.Head tf B n m a W T T1) : CI W B 0 0 none W ∧ WgLive 65 (B + 6) W := ⟨⟨rfl, rfl, rfl, h.size, fun _ _ _ _ => rfl, fun i hi => by omega, fun _ e => by cases e⟩, 0, 0, h.wg⟩
theorem Wk.Head.pos (h : Wk.Head tf B n m a W T T1) : 1 ≤ n ∧ n ≤ 32 := by
  have h1 := two_pow_le m h.hm
  have h2 : 0 < 2 ^ m := Nat.pow_pos (by decide)
  have := h.hn
  omega

/-- The crew, over whatever frames that end well. -/
theorem Wk.crew (ht : TermC tf tv) (ho : ∀ a s x, tv a s x = 1 ∨ tv a s x = -1) (hS : Wk.Elder S B) (h : Wk.Head tf B n m a W T T1) (hE : ∀ S, Wk.Elder S B → Wk.Ends S B W n (tv a) Post c cs e) :
    ∃ (I : Nat × Nat → Array Goroutine → World → Trace → Prop) (μ : Nat × Nat), Crew Try.prog S (ShN (B + 6)) Post I ∧ I μ #[G ((base 49).at ⟨T, []⟩ [.code Wk.L64, .inLoop Wk.L64, .inBlock 0, .code Wk.R64]) (Wk.c47 T1 :: c :: cs)] W #[] := by
  obtain ⟨hn1, hn32⟩ := h.pos
  have hA0 : Wk.AnchS B n T1 c cs 0 (G ((base 49).at ⟨T, []⟩ [.code Wk.L64, .inLoop Wk.L64, .inBlock 0, .code Wk.R64]) (Wk.c47 T1 :: c :: cs)) := ⟨T, rfl, h.t, h.t3, h.t4, h.t6, h.t7⟩
  have hAr : ∀ g w, Wk.AnW B W n T1 c cs g w → g.status = .running := by
    rintro g w ⟨_, _, _, rfl, _⟩
    rfl
  have hsp : ∀ S, Wk.Elder S B → Wk.SP S B W n (tv a) T1 c cs n (G ((base 49).at ⟨T, []⟩ [.code Wk.L64, .inLoop Wk.L64, .inBlock 0, .code Wk.R64]) (Wk.c47 T1 :: c :: cs)) W := fun S hS => by
    obtain ⟨f, hf⟩ := Wk.spawnsFrom (T1 := T1) (c := c) (cs := cs) hS ht ho h.ha h.hm h.hn h.kn n 0 (by omega)
    refine (Wk.spawns_iff S B W n (tv a) T1 c cs n _ _).2 ⟨f, ?_⟩
    have := hf _ W hA0 h.ci
    rw [Nat.sub_self]
    exact this
  have hfi : First Try.prog S (G ((base 49).at ⟨T, []⟩ [.code Wk.L64, .inLoop Wk.L64, .inBlock 0, .code Wk.R64]) (Wk.c47 T1 :: c :: cs)) W :=
    first_of (Own := fun _ l => S l) (Lw := fun _ => B + 7) (fun l h => h) (by omega) (Wk.first (T1 := T1) (c := c) (cs := cs) hS hn1 _ W hA0 h.ci) h.wg
  obtain ⟨μ, hI⟩ := crew_start (vals := Wk.vals (tv a) n) (Post := Post) (hsp (fun _ => False) (Wk.no_elder B)) (hsp S hS) hfi h.wg h.pay
  refine ⟨_, μ, crew_of (fun l h => ⟨Nat.le_refl _, .inr ⟨rfl, h⟩⟩) ?_ ?_ (Wk.apart (Wk.no_elder B)) (Wk.apart hS) (Wk.geo B) (by omega) hn1 hAr
    (fun g w hg => Wk.anW_round (Wk.no_elder B) h.kn (hE _ (Wk.no_elder B)) h.t1 h.t15 g w hg) (fun g w hg => Wk.anW_round hS h.kn (hE _ hS) h.t1 h.t15 g w hg) (Wk.vals_len _ _) (Wk.vals_get _ _), hI⟩
  · rintro k l ⟨_, h | ⟨_, h⟩⟩ hs
    · obtain ⟨a, e, hb⟩ := hS _ hs
      rw [h] at e
      cases e
      simp at hb
      omega
    · exact h
  · rintro k l ⟨_, a, rfl, hb⟩ hs
    obtain ⟨a', e, hb'⟩ := hS _ hs
    cases e
    omega

theorem Wk.mild64 : MildF Try.prog Tq.calls ((base 49).at ⟨T, []⟩ [.code Wk.L64, .inLoop Wk.L64, .inBlock 0, .code Wk.R64]) where
  fine := ⟨_, Try.func49⟩
  defers := by simp [Frame.at]
  round := rfl
  kind := .inl rfl
  todo := by
    have h1 : codeMild Tq.calls Wk.L64 = true := by decide +kernel
    have h2 : codeMild Tq.calls Wk.R64 = true := by decide +kernel
    intro it hit
    simp only [Frame.at, List.mem_cons, List.not_mem_nil, or_false] at hit
    rcases hit with rfl | rfl | rfl | rfl <;> first | exact h1 | exact h2 | rfl
theorem Wk.mild47 : MildF Try.prog Tq.calls (Wk.c47 T1) where
  fine := ⟨_, Try.func38⟩
  defers := by simp [Wk.c47, Frame.at]
  round := rfl
  kind := .inl rfl
  todo := by
    have h1 : (Wk.ops2.toList.all (mildOp Tq.calls)) = true := by decide +kernel
    have h2 : codeMild Tq.calls Wk.tail2 = true := by decide +kernel
    intro it hit
    simp only [Wk.c47, Frame.at, List.mem_cons, List.not_mem_nil, or_false] at hit
    rcases hit with rfl | rfl <;> first | exact h1 | exact h2
theorem Wk.mild17 {T2 : Array Value} : MildF Try.prog Tq.calls (Wk.c17 T2) where
  fine := ⟨_, Try.func14⟩
  defers := by simp [Wk.c17, Frame.at]
  round := rfl
  kind := .inl rfl
  todo := by
    have h1 : (Wk.ops4.toList.all (mildOp Tq.calls)) = true := by decide +kernel
    intro it hit
    simp only [Wk.c17, Frame.at, List.mem_cons, List.not_mem_nil, or_false] at hit
    rcases hit with rfl | rfl <;> first | exact h1 | rfl

/-- At the head of the loop all is ready. -/
theorem Wk.ready17 {T2 : Array Value} (hS : Wk.Elder S B) (h : Wk.Head 39 B n m a W T T1) (h2 : T2.size = 14) (l : List Frame) :
    Ready Try.prog Tq.calls S (fun S' => S' = ShN (B + 6)) (Wk.PostE B W n (spcV a)) l (G ((base 49).at ⟨T, []⟩ [.code Wk.L64, .inLoop Wk.L64, .inBlock 0, .code Wk.R64]) (Wk.c47 T1 :: Wk.c17 T2 :: l)) W := by
  obtain ⟨I1, μ1, C1, i1⟩ := Wk.crew (Post := fun _ _ => True) (c := Wk.c17 T2) (cs := lobby Try.prog :: [door Try.prog]) Wk.termS spcV_one hS h (fun S hS => Wk.ends17 h2 (Wk.endsLobby Tq.no_init))
  obtain ⟨I2, μ2, C2, i2⟩ := Wk.crew (Post := Wk.PostE B W n (spcV a)) (c := Wk.c17 T2) (cs := sill Try.prog :: []) Wk.termS spcV_one hS h (fun S hS => Wk.ends17 h2 (Wk.endsSill Tq.no_init))
  refine ⟨_, [Wk.c47 T1, Wk.c17 T2], rfl, Wk.mild64, ?_, ShN (B + 6), _, I1, I2, μ1, μ2, rfl, C1, C2, i1, i2⟩
  intro x hx
  simp only [List.mem_cons, List.not_mem_nil, or_false] at hx
  rcases hx with rfl | rfl
  · exact Wk.mild47
  · exact Wk.mild17
end

end Go.Proofs.Ytechkghnmgimbaa
