/-
  Chapter 12, in company: AutocorrelationOf up to the head of the loop that starts the workers; its term, its frame.
-/
import Derived.Test.YtechkghnmgimbaaWkP
import Derived.Test.YtechkghnmgimbaaAutP
import Derived.Test.YtechkghnmgimbaaAkO
namespace Go.Proofs.Ytechkghnmgimbaa
open Go.Conc Go.ConcN Go.RowKit Go.Conc.Lib Go.ConcR.Gen Go.ConcN.Gen Plain Go.Veiled
open Go.ConcR (KK wgBlock WgAt stA smA rd wr mk Payload Aside2 DC0 ofEvent_cell)
set_option linter.unusedVariables false
set_option linter.unusedSimpArgs false
set_option linter.unusedSectionVars false

set_option maxRecDepth 100000 in
theorem Wk.termA : TermC 46 autV := by
  obtain ⟨n1, hat⟩ := Wk.at
  obtain ⟨n3, hsg⟩ := Wk.sign
  co_apply Exists.intro
  intro S B n m a j ha s x hs hx w hF
  have T := Wk.terms S B n j
  have hxs := xor64 x s (by omega) (by omega)
  have hxl : x ^^^ s < 2 ^ 5 := Nat.xor_lt_two_pow (by omega) (by omega)
  have hb := bitN_lt a x
  have hp := bitN_lt a (x ^^^ s)
  have hxor := xor64 (bitN a x) (bitN a (x ^^^ s)) (by omega) (by omega)
  rw [xor_bits hb hp] at hxor
  have hq : (bitN a x + bitN a (x ^^^ s)) % 2 < 2 := Nat.mod_lt _ (by decide)
  have hfin : (1 : Int) - 2 * (((bitN a x + bitN a (x ^^^ s)) % 2 : Nat) : Int) = autV a s x := rfl
  have HA2 := fun w => hat false _ _ T a (x ^^^ s) ha (by omega) w
  generalize hz : (bitN a x + bitN a (x ^^^ s)) % 2 = z at *
  generalize hy2 : bitN a (x ^^^ s) = p2 at *
  generalize hxz : x ^^^ s = xs at *
  co_apply callsC_of_wpC Try.func46 (by rfl) rfl
  replace hF : WS _ B n m a j w w := ⟨hF, .refl w⟩
  simp only [Try.ntmps46, List.size_toArray, List.length_cons, List.length_nil, Nat.reduceAdd, Nat.reduceSub, Array.replicate_succ, Array.replicate_zero, List.push_toArray, List.append_toArray, List.nil_append, List.cons_append]
  co_stmt T WS.rely hF (co_quiet T)
  co_apply wpC_seq T
  co_apply wpC_region_any (C := n1 + n3 + 10) (I := fun w' => WS 46 B n m a j w w') (act := fun l => { tmps := #[.int .i64 s, .int .i64 x, .pointer (some ⟨B, 0, none⟩), undef, undef, if lst l 10 = true then .int .i64 (autV a s x) else .int .i64 0, if lst l 0 = true then .int .u64 a else undef, if lst l 1 = true then .int .i64 x else undef, if lst l 2 = true then .int .i64 (bitN a x : Int) else undef, if lst l 3 = true then .int .u64 a else undef, if lst l 4 = true then .int .i64 x else undef, if lst l 5 = true then .int .i64 s else undef, if lst l 6 = true then .int .i64 xs else undef, if lst l 7 = true then .int .i64 p2 else undef, if lst l 8 = true then .int .i64 z else undef, if lst l 9 = true then .int .i64 (autV a s x) else undef], defers := [] }) T (fun w => ⟨⟨rfl, rfl, rfl, rfl, fun _ _ => rfl, id, fun _ _ => rfl⟩, fun e he => by simp at he⟩) (by kernel_rfl) (by simp [lst_none]) (fun w' h => h.rely ⟨fun _ _ _ _ => rfl, id, id, rfl⟩) (fun _ _ h r => h.rely r) ?_ ?_ hF
  · intro i l hs hi wc rest nn hF hnext
    obtain ⟨h1, _, h3⟩ := ready_mem hi
    have hl : i < l.size := by omega
    simp only [List.size_toArray, List.length_cons, List.length_nil, Nat.reduceAdd] at h1 hs
    clear hi
    try dsimp only at hnext ⊢
    have : i = 0 ∨ i = 1 ∨ i = 2 ∨ i = 3 ∨ i = 4 ∨ i = 5 ∨ i = 6 ∨ i = 7 ∨ i = 8 ∨ i = 9 ∨ i = 10 := by omega
    rcases this with rfl | rfl | rfl | rfl | rfl | rfl | rfl | rfl | rfl | rfl | rfl
    all_goals (have hd := h3 _ rfl; simp [Region.binds] at hd)
    · refine opsC_more (n := nn + 1) ?_ (by omega)
      co_apply opsC_cons_k rfl (by rfl)
      intro _ hR K hK
      replace hF := hF.rely hR
      clear hR
      have h1 := hF.1.kn.wv
      go_simp
      refine hK _ _ ⟨?_, ?_⟩
      · exact Wk.d_read (b := B) (by simp [go_sem, *]) (by simp)
      clear hK K
      refine Eq.mp ?_ (hnext _ hF)
      congr 1
      simp [lst_set hl, hd, hfin, Act.put]
    · refine opsC_more (n := nn + 1) ?_ (by omega)
      co_apply opsC_cons_k rfl (by rfl)
      intro _ hR K hK
      replace hF := hF.rely hR
      clear hR
      go_simp
      refine hK _ _ ⟨?_, ?_⟩
      · rw [listed_nil (by simp [go_sem, hd])]; exact Terms.idle T _
      clear hK K
      refine Eq.mp ?_ (hnext _ hF)
      congr 1
      simp [lst_set hl, hd, hfin, Act.put]
    · refine opsC_more (n := nn + n1 + 3) ?_ (by omega)
      co_apply opsC_callv T rfl (by rfl) rfl (by simp [Act.eval, hd]) (vs := #[.int .u64 a, .int .i64 x]) (hat _ _ _ T a x ha hx _)
      rintro v w' ⟨rfl, hS⟩
      refine Eq.mp ?_ (hnext _ (hF.since hS))
      congr 1
      simp [lst_set hl, hd, hfin, Act.put]
    · refine opsC_more (n := nn + 1) ?_ (by omega)
      co_apply opsC_cons_k rfl (by rfl)
      intro _ hR K hK
      replace hF := hF.rely hR
      clear hR
      have h1 := hF.1.kn.wv
      go_simp
      refine hK _ _ ⟨?_, ?_⟩
      · exact Wk.d_read (b := B) (by simp [go_sem, *]) (by simp)
      clear hK K
      refine Eq.mp ?_ (hnext _ hF)
      congr 1
      simp [lst_set hl, hd, hfin, Act.put]
    · refine opsC_more (n := nn + 1) ?_ (by omega)
      co_apply opsC_cons_k rfl (by rfl)
      intro _ hR K hK
      replace hF := hF.rely hR
      clear hR
      go_simp
      refine hK _ _ ⟨?_, ?_⟩
      · rw [listed_nil (by simp [go_sem, hd])]; exact Terms.idle T _
      clear hK K
      refine Eq.mp ?_ (hnext _ hF)
      congr 1
      simp [lst_set hl, hd, hfin, Act.put]
    · refine opsC_more (n := nn + 1) ?_ (by omega)
      co_apply opsC_cons_k rfl (by rfl)
      intro _ hR K hK
      replace hF := hF.rely hR
      clear hR
      go_simp
      refine hK _ _ ⟨?_, ?_⟩
      · rw [listed_nil (by simp [go_sem, hd])]; exact Terms.idle T _
      clear hK K
      refine Eq.mp ?_ (hnext _ hF)
      congr 1
      simp [lst_set hl, hd, hfin, Act.put]
    · refine opsC_more (n := nn + 1) ?_ (by omega)
      co_apply opsC_cons_k rfl (by rfl)
      intro _ hR K hK
      replace hF := hF.rely hR
      clear hR
      go_simp
      try rw [hxs]
      refine hK _ _ ⟨?_, ?_⟩
      · rw [listed_nil (by simp [go_sem, hd])]; exact Terms.idle T _
      clear hK K
      refine Eq.mp ?_ (hnext _ hF)
      congr 1
      simp [lst_set hl, hd, hfin, Act.put]
    · refine opsC_more (n := nn + n1 + 3) ?_ (by omega)
      co_apply opsC_callv T rfl (by rfl) rfl (by simp [Act.eval, hd]) (vs := #[.int .u64 a, .int .i64 (xs : Int)]) (HA2 _)
      rintro v w' ⟨rfl, hS⟩
      refine Eq.mp ?_ (hnext _ (hF.since hS))
      congr 1
      simp [lst_set hl, hd, hfin, Act.put]
    · refine opsC_more (n := nn + 1) ?_ (by omega)
      co_apply opsC_cons_k rfl (by rfl)
      intro _ hR K hK
      replace hF := hF.rely hR
      clear hR
      go_simp
      try rw [hxor]
      refine hK _ _ ⟨?_, ?_⟩
      · rw [listed_nil (by simp [go_sem, hd])]; exact Terms.idle T _
      clear hK K
      refine Eq.mp ?_ (hnext _ hF)
      congr 1
      simp [lst_set hl, hd, hfin, Act.put]
    · refine opsC_more (n := nn + n3 + 3) ?_ (by omega)
      co_apply opsC_callv T rfl (by rfl) rfl (by simp [Act.eval, hd]) (vs := #[.int .i64 (z : Int)]) (hsg _ _ _ T _ hq _)
      rintro v w' ⟨rfl, hS⟩
      refine Eq.mp ?_ (hnext _ (hF.since hS))
      congr 1
      simp [lst_set hl, hd, hfin, Act.put]
    · refine opsC_more (n := nn + 1) ?_ (by omega)
      co_apply opsC_cons_k rfl (by rfl)
      intro _ hR K hK
      replace hF := hF.rely hR
      clear hR
      go_simp
      refine hK _ _ ⟨?_, ?_⟩
      · rw [listed_nil (by simp [go_sem, hd])]; exact Terms.idle T _
      clear hK K
      refine Eq.mp ?_ (hnext _ hF)
      congr 1
      simp [lst_set hl, hd, hfin, Act.put]
  · intro l wc hs hr hF
    have h10 := ready_all (top_of (by kernel_rfl)) hs hr 10 (by simp)
    try dsimp only
    simp only [h10, if_true, reduceIte]
    co_then
    co_go T WS.rely hF (co_quiet T)
    exact ⟨rfl, _, resultsC_tmp (by rfl) _, by show Value.int .i64 _ = _; first | rfl | exact val_int hfin, hF.2⟩

noncomputable def Wk.body26 : Code := Try.f26.body.getD .skip
noncomputable def Wk.ops5a : Array Oper := match Wk.body26 with | .seq _ (.seq _ (.seq _ (.seq (.region _ ops _) _))) => ops | _ => #[]
/-- The frame of AutocorrelationOf, waiting for sumsOfSets. -/
noncomputable def Wk.c26 (T : Array Value) : Frame := (base 26).at ⟨T, []⟩ (.inRegion Wk.ops5a (3 :: [4]) :: [.code .ret])

section
variable {S : Loc → Prop} {B : Nat} {W : World} {n m a e : Nat} {tv : Nat → Nat → Int} {Post : Value → World → Prop} {T T1 T2 : Array Value}
set_option maxRecDepth 100000 in
/-- AutocorrelationOf returns to whom it was called by. -/
theorem Wk.ends26 {c : Frame} {cs : List Frame} (h2 : T2.size = 14) (hE : Wk.Ends S B W n tv Post c cs e) : Wk.Ends S B W n tv Post (Wk.c26 T2) (c :: cs) (e + 4) := by
  intro w hf hl
  have hF := And.intro hf hl
  obtain ⟨v0, v1, v2, v3, v4, v5, v6, v7, v8, v9, v10, v11, v12, v13, rfl⟩ := Wk.array14 T2 h2
  have e1 : (Wk.c26 #[v0, v1, v2, v3, v4, v5, v6, v7, v8, v9, v10, v11, v12, v13]).finish (.slice (some ⟨B + 3, 0, none⟩) n n) = (base 26).at ⟨#[v0, v1, v2, v3, v4, v5, v6, v7, v8, v9, v10, v11, v12, .slice (some ⟨B + 3, 0, none⟩) n n], []⟩ (.inRegion Wk.ops5a [4] :: [.code .ret]) := by
    unfold Wk.c26
    rw [Frame.finish_at]
    rfl
  rw [e1]
  simp only [Wk.ops5a, Wk.body26, Try.f26, Option.getD_some]
  try walk_nrm
  u_op ci_rely hF
  u_c stepG_region_end ci_rely hF
  u_c stepG_ret' ci_rely hF
  u_in ci_rely hF
  rw [stepG_leave (v := .slice (some ⟨B + 3, 0, none⟩) n n) rfl rfl Try.func26 (by simp [results, Try.f26]) (by simp [results, Try.f26])]
  simp only [goes_go]
  refine ⟨by u_nil, ?_⟩
  exact hE _ hF.1 hF.2

theorem Wk.mild26 {T2 : Array Value} : MildF Try.prog Tq.calls (Wk.c26 T2) where
  fine := ⟨_, Try.func26⟩
  defers := by simp [Wk.c26, Frame.at]
  round := rfl
  kind := .inl rfl
  todo := by
    have h1 : (Wk.ops5a.toList.all (mildOp Tq.calls)) = true := by decide +kernel
    intro it hit
    simp only [Wk.c26, Frame.at, List.mem_cons, List.not_mem_nil, or_false] at hit
    rcases hit with rfl | rfl <;> first | exact h1 | rfl

/-- At the head of the loop all is ready. -/
theorem Wk.ready26 {T2 : Array Value} (hS : Wk.Elder S B) (h : Wk.Head 46 B n m a W T T1) (h2 : T2.size = 14) (l : List Frame) :
    Ready Try.prog Tq.calls S (fun S' => S' = ShN (B + 6)) (Wk.PostE B W n (autV a)) l (G ((base 49).at ⟨T, []⟩ [.code Wk.L64, .inLoop Wk.L64, .inBlock 0, .code Wk.R64]) (Wk.c47 T1 :: Wk.c26 T2 :: l)) W := by
  obtain ⟨I1, μ1, C1, i1⟩ := Wk.crew (Post := fun _ _ => True) (c := Wk.c26 T2) (cs := lobby Try.prog :: [door Try.prog]) Wk.termA autV_one hS h (fun S hS => Wk.ends26 h2 (Wk.endsLobby Tq.no_init))
  obtain ⟨I2, μ2, C2, i2⟩ := Wk.crew (Post := Wk.PostE B W n (autV a)) (c := Wk.c26 T2) (cs := sill Try.prog :: []) Wk.termA autV_one hS h (fun S hS => Wk.ends26 h2 (Wk.endsSill Tq.no_init))
  refine ⟨_, [Wk.c47 T1, Wk.c26 T2], rfl, Wk.mild64, ?_, ShN (B + 6), _, I1, I2, μ1, μ2, rfl, C1, C2, i1, i2⟩
  intro x hx
  simp only [List.mem_cons, List.not_mem_nil, or_false] at hx
  rcases hx with rfl | rfl
  · exact Wk.mild47
  · exact Wk.mild26
end

attribute [local go_sem] Wk.run_makeFunc Wk.events_makeFunc
set_option maxRecDepth 100000 in
set_option maxHeartbeats 4000000 in
/-- No table: an empty list. -/
theorem Wk.prologueA_no : ∃ k, ∀ (W : World) (args parts : Array Value) (u1 u2 u3 u4 u5 u6 u7 u8 u9 u10 u11 u12 u13 : Value) (hargs : args ++ Array.replicate (14 - args.size) undef = #[.agg parts, u1, u2, u3, u4, u5, u6, u7, u8, u9, u10, u11, u12, u13]) (n a : Int) (c : Frame) (l : List Frame) (hp0 : parts[0]? = some (.int .i64 n)) (hp1 : parts[1]? = some (.int .i64 a)) (HR : -9223372036854775808 ≤ a ∧ a ≤ 9223372036854775807) (hIs : isT n a = false),
    Goes Try.prog true AtRel (DL W.heap.size (W.heap.size + 20)) (fun g w => g = G (c.finish (.slice none 0 0)) l ∧ PR W [.cells parts 26, .cells #[.int .i64 n, .int .i64 a] 26] w) k (G (Frame.enter Try.prog 26 args .normal) (c :: l)) W := by
  obtain ⟨kT, hT⟩ := Wk.isTable
  refine ⟨200 + kT + 3 + 60, fun W args parts u1 u2 u3 u4 u5 u6 u7 u8 u9 u10 u11 u12 u13 hargs n a c l hp0 hp1 HR hIs => ?_⟩
  have hent : Frame.enter Try.prog 26 args .normal = (base 26).at ⟨#[.agg parts, u1, u2, u3, u4, u5, u6, u7, u8, u9, u10, u11, u12, u13], []⟩ [.code Wk.body26] := by
    have hnt : Try.f26.ntmps = 14 := Try.ntmps26
    rw [← hargs]
    simp [Frame.enter, Try.func26, hnt, Frame.at, base, Wk.body26, Try.f26]
  rw [hent]
  have hF := PR.refl W
  simp only [Wk.body26, Try.f26, Option.getD_some]
  refine Goes.step rfl (fun _ h₁ => ?_)
  replace hF := hF.rely h₁
  clear h₁
  rw [stepG_seq]
  simp only [goes_go]
  refine ⟨dl_nil, ?_⟩
  refine Goes.step rfl (fun _ h₁ => ?_)
  replace hF := hF.rely h₁
  clear h₁
  rw [stepG_region]
  simp only [goes_go, List.size_toArray, List.length_cons, List.length_nil, Nat.reduceAdd, Nat.zero_add, List.range, List.range.loop]
  refine ⟨dl_nil, ?_⟩
  refine Goes.step rfl (fun _ h₁ => ?_)
  replace hF := hF.rely h₁
  clear h₁
  refine goes_oper_k rfl rfl (by decide) (fun K hK => ?_)
  have hsz : _ = W.heap.size + 0 := hF.size
  go_simp
  refine hK _ _ ⟨(by rw [listed_nil (by simp [go_sem, *])]; exact dl_nil), ?_⟩
  clear hK K
  replace hF : PR W [.cells parts 26] _ := hF.alloc (.cells parts 26)
  try rw [hsz]
  clear hsz
  try walk_nrm
  refine Goes.step rfl (fun _ h₁ => ?_)
  replace hF := hF.rely h₁
  clear h₁
  refine goes_oper_k rfl rfl (by decide) (fun K hK => ?_)
  go_simp
  refine hK _ _ ⟨(by rw [listed_nil (by simp [go_sem, conv_iw, events_store_slice, storedEv])]; exact dl_nil), ?_⟩
  clear hK K
  try walk_nrm
  refine Goes.step rfl (fun _ h₁ => ?_)
  replace hF := hF.rely h₁
  clear h₁
  rw [stepG_region_end]
  simp only [goes_go]
  refine ⟨dl_nil, ?_⟩
  refine Goes.step rfl (fun _ h₁ => ?_)
  replace hF := hF.rely h₁
  clear h₁
  rw [stepG_seq]
  simp only [goes_go]
  refine ⟨dl_nil, ?_⟩
  refine Goes.step rfl (fun _ h₁ => ?_)
  replace hF := hF.rely h₁
  clear h₁
  rw [stepG_seq]
  simp only [goes_go]
  refine ⟨dl_nil, ?_⟩
  refine Goes.step rfl (fun _ h₁ => ?_)
  replace hF := hF.rely h₁
  clear h₁
  rw [stepG_region]
  simp only [goes_go, List.size_toArray, List.length_cons, List.length_nil, Nat.reduceAdd, Nat.zero_add, List.range, List.range.loop]
  refine ⟨dl_nil, ?_⟩
  refine Goes.step rfl (fun _ h₁ => ?_)
  replace hF := hF.rely h₁
  clear h₁
  refine goes_oper_k rfl rfl (by decide) (fun K hK => ?_)
  have hx0 : World.cell? _ ⟨W.heap.size, 0, none⟩ = some (.int .i64 n) := hF.cell (i := 0) (j := 0) (cs := parts) (t := 26) (f := (0, 0)) rfl hp0
  have hx1 : World.cell? _ ⟨W.heap.size, 1, none⟩ = some (.int .i64 a) := hF.cell (i := 0) (j := 1) (cs := parts) (t := 26) (f := (0, 0)) rfl hp1
  go_simp
  refine hK _ _ ⟨dl_read (k := [0, 1]) (b := W.heap.size) (by simp [go_sem, *]) (by omega), ?_⟩
  clear hK K hx0 hx1
  try walk_nrm
  refine Go.Conc.Goes.mono (n := 200 + kT + 3) ?_ (by omega)
  refine Go.Veiled.Goes.callv (termsL W.heap.size (W.heap.size + 20)) rfl rfl (by decide) rfl (by simp [Act.eval]) (vs := #[.agg #[.int .i64 n, .int .i64 a]]) (hT W (W.heap.size + 20) [.cells parts 26] n a HR (by show _ + 1 < _; omega) _ hF) ?_
  clear hF
  rintro v w' ⟨rfl, hF⟩
  replace hF : PR W [.cells parts 26, .cells #[.int .i64 n, .int .i64 a] 26] w' := hF
  try rw [hIs]
  try walk_nrm
  refine Goes.step rfl (fun _ h₁ => ?_)
  replace hF := hF.rely h₁
  clear h₁
  refine goes_oper_k rfl rfl (by decide) (fun K hK => ?_)
  go_simp
  refine hK _ _ ⟨(by rw [listed_nil (by simp [go_sem, conv_iw, events_store_slice, storedEv])]; exact dl_nil), ?_⟩
  clear hK K
  try walk_nrm
  refine Goes.step rfl (fun _ h₁ => ?_)
  replace hF := hF.rely h₁
  clear h₁
  rw [stepG_region_end]
  simp only [goes_go]
  refine ⟨dl_nil, ?_⟩
  refine Goes.step rfl (fun _ h₁ => ?_)
  replace hF := hF.rely h₁
  clear h₁
  rw [stepG_cond (t := true) rfl]
  simp only [goes_go, if_true, if_false, Bool.false_eq_true, ↓reduceIte]
  refine ⟨dl_nil, ?_⟩
  refine Goes.step rfl (fun _ h₁ => ?_)
  replace hF := hF.rely h₁
  clear h₁
  rw [stepG_seq]
  simp only [goes_go]
  refine ⟨dl_nil, ?_⟩
  refine Goes.step rfl (fun _ h₁ => ?_)
  replace hF := hF.rely h₁
  clear h₁
  rw [stepG_region]
  simp only [goes_go, List.size_toArray, List.length_cons, List.length_nil, Nat.reduceAdd, Nat.zero_add, List.range, List.range.loop]
  refine ⟨dl_nil, ?_⟩
  refine Goes.step rfl (fun _ h₁ => ?_)
  replace hF := hF.rely h₁
  clear h₁
  refine goes_oper_k rfl rfl (by decide) (fun K hK => ?_)
  go_simp
  refine hK _ _ ⟨(by rw [listed_nil (by simp [go_sem, conv_iw, events_store_slice, storedEv])]; exact dl_nil), ?_⟩
  clear hK K
  try walk_nrm
  refine Goes.step rfl (fun _ h₁ => ?_)
  replace hF := hF.rely h₁
  clear h₁
  rw [stepG_region_end]
  simp only [goes_go]
  refine ⟨dl_nil, ?_⟩
  refine Goes.step rfl (fun _ h₁ => ?_)
  replace hF := hF.rely h₁
  clear h₁
  rw [stepG_ret']
  simp only [goes_go]
  refine ⟨dl_nil, ?_⟩
  refine Goes.step rfl (fun _ h₁ => ?_)
  replace hF := hF.rely h₁
  clear h₁
  rw [stepG_leave (v := .slice none 0 0) rfl rfl Try.func26 (by simp [results, Try.f26]) (by simp [results, Try.f26])]
  simp only [goes_go]
  refine ⟨dl_nil, Goes.stop fun w₂ r₂ => ⟨rfl, hF.rely r₂⟩⟩

set_option maxRecDepth 100000 in
set_option maxHeartbeats 8000000 in
/-- A table: to the head of the loop. -/
theorem Wk.prologueA : ∃ k, ∀ (W : World) (args parts : Array Value) (u1 u2 u3 u4 u5 u6 u7 u8 u9 u10 u11 u12 u13 : Value) (hargs : args ++ Array.replicate (14 - args.size) undef = #[.agg parts, u1, u2, u3, u4, u5, u6, u7, u8, u9, u10, u11, u12, u13]) (n a : Nat) (c : Frame) (l : List Frame) (hp0 : parts[0]? = some (.int .i64 n)) (hp1 : parts[1]? = some (.int .i64 a)) (hn : n ≤ 5) (ha : (a : Int) ≤ 4294967295) (hIs : isT n a = true),
    Goes Try.prog true AtRel (DL W.heap.size (W.heap.size + 20)) (fun g w => ∃ T T1 T2 : Array Value, T2.size = 14 ∧ g = G ((base 49).at ⟨T, []⟩ [.code Wk.L64, .inLoop Wk.L64, .inBlock 0, .code Wk.R64]) (Wk.c47 T1 :: Wk.c26 T2 :: c :: l) ∧ Wk.Head 46 (W.heap.size + 2) (2 ^ n) n a w T T1 ∧ PR W [.cells parts 26, .cells #[.int .i64 n, .int .i64 a] 26, .cells #[.int .u64 a] 40, .cells #[.int .i64 n] 3, .cells #[.func (.func 46) #[] #[.pointer (some ⟨W.heap.size + 2, 0, none⟩)]] 42, .cells (madeCells #[.int .i64 0] (2 ^ n)) 3, .cells #[.slice (some ⟨W.heap.size + 5, 0, none⟩) (2 ^ n) (2 ^ n)] 24, .cells #[.func (.func 55) #[] #[.pointer (some ⟨W.heap.size + 3, 0, none⟩), .pointer (some ⟨W.heap.size + 4, 0, none⟩), .pointer (some ⟨W.heap.size + 6, 0, none⟩)]] 48, .cells #[.int .u64 0, .int .u32 0] 65] w) k (G (Frame.enter Try.prog 26 args .normal) (c :: l)) W := by
  obtain ⟨kT, hT⟩ := Wk.isTable
  obtain ⟨kC, hC⟩ := Wk.count
  obtain ⟨i0, hi, hz0, hz1, hz2⟩ := info_parts Wk.infoInt
  refine ⟨200 + kC + 3 + 60 + kT + 3 + 60, fun W args parts u1 u2 u3 u4 u5 u6 u7 u8 u9 u10 u11 u12 u13 hargs n a c l hp0 hp1 hn ha hIs => ?_⟩
  have HR : -9223372036854775808 ≤ (a : Int) ∧ (a : Int) ≤ 9223372036854775807 := by omega
  have h32 := two_pow_le n hn
  obtain ⟨M, hM⟩ : ∃ M, 2 ^ n = M := ⟨_, rfl⟩
  rw [hM] at h32
  have hmk := fun w => run_make (P := Try.prog) w 24 3 i0 (.int .i64 0) Try.underlying24 hi hz0 .i64 .i64 M M (by omega) (by omega) (by rw [hz2]; omega) (by omega)
  have hme := fun w es => events_make (P := Try.prog) w 24 3 i0 (.int .i64 0) Try.underlying24 hi hz0 .i64 .i64 M M (by omega) (by omega) (by rw [hz2]; omega) (by omega) (by rw [hz2]; simp; omega) es
  have hcnt := fun w => hC true AtRel (DL W.heap.size (W.heap.size + 20)) (termsL W.heap.size (W.heap.size + 20)) n hn w
  simp only [hM] at hcnt ⊢
  have hconv : IntKind.u64.wrap (a : Int) = (a : Int) := by rw [IntKind.wrap_u64]; omega
  have hent : Frame.enter Try.prog 26 args .normal = (base 26).at ⟨#[.agg parts, u1, u2, u3, u4, u5, u6, u7, u8, u9, u10, u11, u12, u13], []⟩ [.code Wk.body26] := by
    have hnt : Try.f26.ntmps = 14 := Try.ntmps26
    rw [← hargs]
    simp [Frame.enter, Try.func26, hnt, Frame.at, base, Wk.body26, Try.f26]
  rw [hent]
  have hF := PR.refl W
  simp only [Wk.body26, Try.f26, Option.getD_some]
  refine Goes.step rfl (fun _ h₁ => ?_)
  replace hF := hF.rely h₁
  clear h₁
  rw [stepG_seq]
  simp only [goes_go]
  refine ⟨dl_nil, ?_⟩
  refine Goes.step rfl (fun _ h₁ => ?_)
  replace hF := hF.rely h₁
  clear h₁
  rw [stepG_region]
  simp only [goes_go, List.size_toArray, List.length_cons, List.length_nil, Nat.reduceAdd, Nat.zero_add, List.range, List.range.loop]
  refine ⟨dl_nil, ?_⟩
  refine Goes.step rfl (fun _ h₁ => ?_)
  replace hF := hF.rely h₁
  clear h₁
  refine goes_oper_k rfl rfl (by decide) (fun K hK => ?_)
  have hsz : _ = W.heap.size + 0 := hF.size
  go_simp
  refine hK _ _ ⟨(by rw [listed_nil (by simp [go_sem, *])]; exact dl_nil), ?_⟩
  clear hK K
  replace hF : PR W [.cells parts 26] _ := hF.alloc (.cells parts 26)
  try rw [hsz]
  clear hsz
  try walk_nrm
  refine Goes.step rfl (fun _ h₁ => ?_)
  replace hF := hF.rely h₁
  clear h₁
  refine goes_oper_k rfl rfl (by decide) (fun K hK => ?_)
  go_simp
  refine hK _ _ ⟨(by rw [listed_nil (by simp [go_sem, conv_iw, events_store_slice, storedEv])]; exact dl_nil), ?_⟩
  clear hK K
  try walk_nrm
  refine Goes.step rfl (fun _ h₁ => ?_)
  replace hF := hF.rely h₁
  clear h₁
  rw [stepG_region_end]
  simp only [goes_go]
  refine ⟨dl_nil, ?_⟩
  refine Goes.step rfl (fun _ h₁ => ?_)
  replace hF := hF.rely h₁
  clear h₁
  rw [stepG_seq]
  simp only [goes_go]
  refine ⟨dl_nil, ?_⟩
  refine Goes.step rfl (fun _ h₁ => ?_)
  replace hF := hF.rely h₁
  clear h₁
  rw [stepG_seq]
  simp only [goes_go]
  refine ⟨dl_nil, ?_⟩
  refine Goes.step rfl (fun _ h₁ => ?_)
  replace hF := hF.rely h₁
  clear h₁
  rw [stepG_region]
  simp only [goes_go, List.size_toArray, List.length_cons, List.length_nil, Nat.reduceAdd, Nat.zero_add, List.range, List.range.loop]
  refine ⟨dl_nil, ?_⟩
  refine Goes.step rfl (fun _ h₁ => ?_)
  replace hF := hF.rely h₁
  clear h₁
  refine goes_oper_k rfl rfl (by decide) (fun K hK => ?_)
  have hx0 : World.cell? _ ⟨W.heap.size, 0, none⟩ = some (.int .i64 n) := hF.cell (i := 0) (j := 0) (cs := parts) (t := 26) (f := (0, 0)) rfl hp0
  have hx1 : World.cell? _ ⟨W.heap.size, 1, none⟩ = some (.int .i64 a) := hF.cell (i := 0) (j := 1) (cs := parts) (t := 26) (f := (0, 0)) rfl hp1
  go_simp
  refine hK _ _ ⟨dl_read (k := [0, 1]) (b := W.heap.size) (by simp [go_sem, *]) (by omega), ?_⟩
  clear hK K hx0 hx1
  try walk_nrm
  refine Go.Conc.Goes.mono (n := (200 + kC + 3 + 60) + kT + 3) ?_ (by omega)
  refine Go.Veiled.Goes.callv (termsL W.heap.size (W.heap.size + 20)) rfl rfl (by decide) rfl (by simp [Act.eval]) (vs := #[.agg #[.int .i64 n, .int .i64 a]]) (hT W (W.heap.size + 20) [.cells parts 26] n a HR (by show _ + 1 < _; omega) _ hF) ?_
  clear hF
  rintro v w' ⟨rfl, hF⟩
  replace hF : PR W [.cells parts 26, .cells #[.int .i64 n, .int .i64 a] 26] w' := hF
  try rw [hIs]
  try walk_nrm
  refine Goes.step rfl (fun _ h₁ => ?_)
  replace hF := hF.rely h₁
  clear h₁
  refine goes_oper_k rfl rfl (by decide) (fun K hK => ?_)
  go_simp
  refine hK _ _ ⟨(by rw [listed_nil (by simp [go_sem, conv_iw, events_store_slice, storedEv])]; exact dl_nil), ?_⟩
  clear hK K
  try walk_nrm
  refine Goes.step rfl (fun _ h₁ => ?_)
  replace hF := hF.rely h₁
  clear h₁
  rw [stepG_region_end]
  simp only [goes_go]
  refine ⟨dl_nil, ?_⟩
  refine Goes.step rfl (fun _ h₁ => ?_)
  replace hF := hF.rely h₁
  clear h₁
  rw [stepG_cond (t := false) rfl]
  simp only [goes_go, if_true, if_false, Bool.false_eq_true, ↓reduceIte]
  refine ⟨dl_nil, ?_⟩
  refine Goes.step rfl (fun _ h₁ => ?_)
  replace hF := hF.rely h₁
  clear h₁
  rw [stepG_skip]
  simp only [goes_go]
  refine ⟨dl_nil, ?_⟩
  refine Goes.step rfl (fun _ h₁ => ?_)
  replace hF := hF.rely h₁
  clear h₁
  rw [stepG_seq]
  simp only [goes_go]
  refine ⟨dl_nil, ?_⟩
  refine Goes.step rfl (fun _ h₁ => ?_)
  replace hF := hF.rely h₁
  clear h₁
  rw [stepG_region]
  simp only [goes_go, List.size_toArray, List.length_cons, List.length_nil, Nat.reduceAdd, Nat.zero_add, List.range, List.range.loop]
  refine ⟨dl_nil, ?_⟩
  refine Goes.step rfl (fun _ h₁ => ?_)
  replace hF := hF.rely h₁
  clear h₁
  refine goes_oper_k rfl rfl (by decide) (fun K hK => ?_)
  go_simp
  refine hK _ _ ⟨(by rw [listed_nil (by simp [go_sem, conv_iw, events_store_slice, storedEv])]; exact dl_nil), ?_⟩
  clear hK K
  try walk_nrm
  refine Goes.step rfl (fun _ h₁ => ?_)
  replace hF := hF.rely h₁
  clear h₁
  refine goes_oper_k rfl rfl (by decide) (fun K hK => ?_)
  have hx : World.cell? _ ⟨W.heap.size, 1, none⟩ = some (.int .i64 a) := hF.cell (i := 0) (j := 1) (cs := parts) (t := 26) (f := (0, 0)) rfl hp1
  go_simp
  refine hK _ _ ⟨dl_read (k := [1]) (b := W.heap.size) (by simp [go_sem, *]) (by omega), ?_⟩
  clear hK K hx
  try walk_nrm
  refine Goes.step rfl (fun _ h₁ => ?_)
  replace hF := hF.rely h₁
  clear h₁
  refine goes_oper_k rfl rfl (by decide) (fun K hK => ?_)
  go_simp
  refine hK _ _ ⟨(by rw [listed_nil (by simp [go_sem, conv_iw, events_store_slice, storedEv])]; exact dl_nil), ?_⟩
  clear hK K
  try walk_nrm
  refine Goes.step rfl (fun _ h₁ => ?_)
  replace hF := hF.rely h₁
  clear h₁
  refine goes_oper_k rfl rfl (by decide) (fun K hK => ?_)
  have hsz : _ = W.heap.size + 2 := hF.size
  go_simp
  refine hK _ _ ⟨(by rw [listed_nil (by simp [go_sem, *])]; exact dl_nil), ?_⟩
  clear hK K
  replace hF : PR W [.cells parts 26, .cells #[.int .i64 n, .int .i64 a] 26, .cells #[.int .u64 0] 40] _ := hF.alloc (.cells #[.int .u64 0] 40)
  try rw [hsz]
  clear hsz
  try walk_nrm
  refine Goes.step rfl (fun _ h₁ => ?_)
  replace hF := hF.rely h₁
  clear h₁
  refine goes_oper_k rfl rfl (by decide) (fun K hK => ?_)
  have hx : World.cell? _ ⟨W.heap.size + 2, 0, none⟩ = some (.int .u64 0) := hF.cell (i := 2) (j := 0) (cs := #[.int .u64 0]) (t := 40) (f := (0, 0)) rfl rfl
  have hz : World.frozen? _ ⟨W.heap.size + 2, 0, none⟩ = false := hF.thaw (i := 2) (j := 0) (cs := #[.int .u64 0]) (t := 40) rfl
  go_simp
  refine hK _ _ ⟨dl_write (b := W.heap.size + 2) (by simp [go_sem, events_store_slice, storedEv, *]) (by omega), ?_⟩
  clear hK K hx hz
  replace hF : PR W [.cells parts 26, .cells #[.int .i64 n, .int .i64 a] 26, .cells #[.int .u64 a] 40] _ := hF.set (i := 2) (j := 0) (cs := #[.int .u64 0]) (t := 40) rfl (.int .u64 a)
  try walk_nrm
  refine Goes.step rfl (fun _ h₁ => ?_)
  replace hF := hF.rely h₁
  clear h₁
  rw [stepG_region_end]
  simp only [goes_go]
  refine ⟨dl_nil, ?_⟩
  refine Goes.step rfl (fun _ h₁ => ?_)
  replace hF := hF.rely h₁
  clear h₁
  rw [stepG_seq]
  simp only [goes_go]
  refine ⟨dl_nil, ?_⟩
  refine Goes.step rfl (fun _ h₁ => ?_)
  replace hF := hF.rely h₁
  clear h₁
  rw [stepG_region]
  simp only [goes_go, List.size_toArray, List.length_cons, List.length_nil, Nat.reduceAdd, Nat.zero_add, List.range, List.range.loop]
  refine ⟨dl_nil, ?_⟩
  refine Goes.step rfl (fun _ h₁ => ?_)
  replace hF := hF.rely h₁
  clear h₁
  refine goes_oper_k rfl rfl (by decide) (fun K hK => ?_)
  go_simp
  refine hK _ _ ⟨(by rw [listed_nil (by simp [go_sem, conv_iw, events_store_slice, storedEv])]; exact dl_nil), ?_⟩
  clear hK K
  try walk_nrm
  refine Goes.step rfl (fun _ h₁ => ?_)
  replace hF := hF.rely h₁
  clear h₁
  refine goes_oper_k rfl rfl (by decide) (fun K hK => ?_)
  have hx : World.cell? _ ⟨W.heap.size, 0, none⟩ = some (.int .i64 n) := hF.cell (i := 0) (j := 0) (cs := parts) (t := 26) (f := (0, 0)) rfl hp0
  go_simp
  refine hK _ _ ⟨dl_read (k := [0]) (b := W.heap.size) (by simp [go_sem, *]) (by omega), ?_⟩
  clear hK K hx
  try walk_nrm
  refine Goes.step rfl (fun _ h₁ => ?_)
  replace hF := hF.rely h₁
  clear h₁
  refine goes_oper_k rfl rfl (by decide) (fun K hK => ?_)
  go_simp
  refine hK _ _ ⟨(by rw [listed_nil (by simp [go_sem, conv_iw, events_store_slice, storedEv])]; exact dl_nil), ?_⟩
  clear hK K
  try walk_nrm
  refine Goes.step rfl (fun _ h₁ => ?_)
  replace hF := hF.rely h₁
  clear h₁
  refine goes_call rfl rfl (by decide) rfl Try.func38 (by kernel_rfl) rfl ⟨dl_nil, ?_⟩
  walk_nrmf Try.f38
  refine Goes.step rfl (fun _ h₁ => ?_)
  replace hF := hF.rely h₁
  clear h₁
  rw [stepG_seq]
  simp only [goes_go]
  refine ⟨dl_nil, ?_⟩
  refine Goes.step rfl (fun _ h₁ => ?_)
  replace hF := hF.rely h₁
  clear h₁
  rw [stepG_region]
  simp only [goes_go, List.size_toArray, List.length_cons, List.length_nil, Nat.reduceAdd, Nat.zero_add, List.range, List.range.loop]
  refine ⟨dl_nil, ?_⟩
  refine Goes.step rfl (fun _ h₁ => ?_)
  replace hF := hF.rely h₁
  clear h₁
  refine goes_oper_k rfl rfl (by decide) (fun K hK => ?_)
  have hsz : _ = W.heap.size + 3 := hF.size
  go_simp
  refine hK _ _ ⟨(by rw [listed_nil (by simp [go_sem, *])]; exact dl_nil), ?_⟩
  clear hK K
  replace hF : PR W [.cells parts 26, .cells #[.int .i64 n, .int .i64 a] 26, .cells #[.int .u64 a] 40, .cells #[.int .i64 n] 3] _ := hF.alloc (.cells #[.int .i64 n] 3)
  try rw [hsz]
  clear hsz
  try walk_nrm
  refine Goes.step rfl (fun _ h₁ => ?_)
  replace hF := hF.rely h₁
  clear h₁
  refine goes_oper_k rfl rfl (by decide) (fun K hK => ?_)
  have hsz : _ = W.heap.size + 4 := hF.size
  go_simp
  refine hK _ _ ⟨(by rw [listed_nil (by simp [go_sem, *])]; exact dl_nil), ?_⟩
  clear hK K
  replace hF : PR W [.cells parts 26, .cells #[.int .i64 n, .int .i64 a] 26, .cells #[.int .u64 a] 40, .cells #[.int .i64 n] 3, .cells #[.func (.func 46) #[] #[.pointer (some ⟨W.heap.size + 2, 0, none⟩)]] 42] _ := hF.alloc (.cells #[.func (.func 46) #[] #[.pointer (some ⟨W.heap.size + 2, 0, none⟩)]] 42)
  try rw [hsz]
  clear hsz
  try walk_nrm
  refine Goes.step rfl (fun _ h₁ => ?_)
  replace hF := hF.rely h₁
  clear h₁
  refine goes_oper_k rfl rfl (by decide) (fun K hK => ?_)
  go_simp
  refine hK _ _ ⟨(by rw [listed_nil (by simp [go_sem, conv_iw, events_store_slice, storedEv])]; exact dl_nil), ?_⟩
  clear hK K
  try walk_nrm
  refine Goes.step rfl (fun _ h₁ => ?_)
  replace hF := hF.rely h₁
  clear h₁
  rw [stepG_region_end]
  simp only [goes_go]
  refine ⟨dl_nil, ?_⟩
  refine Goes.step rfl (fun _ h₁ => ?_)
  replace hF := hF.rely h₁
  clear h₁
  rw [stepG_seq]
  simp only [goes_go]
  refine ⟨dl_nil, ?_⟩
  refine Goes.step rfl (fun _ h₁ => ?_)
  replace hF := hF.rely h₁
  clear h₁
  rw [stepG_region]
  simp only [goes_go, List.size_toArray, List.length_cons, List.length_nil, Nat.reduceAdd, Nat.zero_add, List.range, List.range.loop]
  refine ⟨dl_nil, ?_⟩
  refine Goes.step rfl (fun _ h₁ => ?_)
  replace hF := hF.rely h₁
  clear h₁
  refine goes_oper_k rfl rfl (by decide) (fun K hK => ?_)
  have hx : World.cell? _ ⟨W.heap.size + 3, 0, none⟩ = some (.int .i64 n) := hF.cell (i := 3) (j := 0) (cs := #[.int .i64 n]) (t := 3) (f := (0, 0)) rfl rfl
  go_simp
  refine hK _ _ ⟨dl_read (k := [0]) (b := W.heap.size + 3) (by simp [go_sem, *]) (by omega), ?_⟩
  clear hK K hx
  try walk_nrm
  refine Go.Conc.Goes.mono (n := 200 + kC + 3) ?_ (by omega)
  refine Go.Veiled.Goes.callv (termsL W.heap.size (W.heap.size + 20)) rfl rfl (by decide) rfl (by simp [Act.eval]) (vs := #[.int .i64 n]) (hcnt _) ?_
  rintro v w' ⟨rfl, hS⟩
  replace hF := hF.since hS
  clear hS
  try walk_nrm
  refine Goes.step rfl (fun _ h₁ => ?_)
  replace hF := hF.rely h₁
  clear h₁
  refine goes_oper_k rfl rfl (by decide) (fun K hK => ?_)
  have hsz : _ = W.heap.size + 5 := hF.size
  go_simp
  refine hK _ _ ⟨(by rw [listed_nil (by simp [go_sem, *])]; exact dl_nil), ?_⟩
  clear hK K
  replace hF : PR W [.cells parts 26, .cells #[.int .i64 n, .int .i64 a] 26, .cells #[.int .u64 a] 40, .cells #[.int .i64 n] 3, .cells #[.func (.func 46) #[] #[.pointer (some ⟨W.heap.size + 2, 0, none⟩)]] 42, .cells (madeCells #[.int .i64 0] M) 3] _ := hF.alloc (.cells (madeCells #[.int .i64 0] M) 3)
  try rw [hsz]
  clear hsz
  try walk_nrm
  refine Goes.step rfl (fun _ h₁ => ?_)
  replace hF := hF.rely h₁
  clear h₁
  refine goes_oper_k rfl rfl (by decide) (fun K hK => ?_)
  have hsz : _ = W.heap.size + 6 := hF.size
  go_simp
  refine hK _ _ ⟨(by rw [listed_nil (by simp [go_sem, *])]; exact dl_nil), ?_⟩
  clear hK K
  replace hF : PR W [.cells parts 26, .cells #[.int .i64 n, .int .i64 a] 26, .cells #[.int .u64 a] 40, .cells #[.int .i64 n] 3, .cells #[.func (.func 46) #[] #[.pointer (some ⟨W.heap.size + 2, 0, none⟩)]] 42, .cells (madeCells #[.int .i64 0] M) 3, .cells #[.slice none 0 0] 24] _ := hF.alloc (.cells #[.slice none 0 0] 24)
  try rw [hsz]
  clear hsz
  try walk_nrm
  refine Goes.step rfl (fun _ h₁ => ?_)
  replace hF := hF.rely h₁
  clear h₁
  refine goes_oper_k rfl rfl (by decide) (fun K hK => ?_)
  have hx : World.cell? _ ⟨W.heap.size + 6, 0, none⟩ = some (.slice none 0 0) := hF.cell (i := 6) (j := 0) (cs := #[.slice none 0 0]) (t := 24) (f := (0, 0)) rfl rfl
  have hz : World.frozen? _ ⟨W.heap.size + 6, 0, none⟩ = false := hF.thaw (i := 6) (j := 0) (cs := #[.slice none 0 0]) (t := 24) rfl
  go_simp
  refine hK _ _ ⟨dl_write (b := W.heap.size + 6) (by simp [go_sem, events_store_slice, storedEv, *]) (by omega), ?_⟩
  clear hK K hx hz
  replace hF : PR W [.cells parts 26, .cells #[.int .i64 n, .int .i64 a] 26, .cells #[.int .u64 a] 40, .cells #[.int .i64 n] 3, .cells #[.func (.func 46) #[] #[.pointer (some ⟨W.heap.size + 2, 0, none⟩)]] 42, .cells (madeCells #[.int .i64 0] M) 3, .cells #[.slice (some ⟨W.heap.size + 5, 0, none⟩) M M] 24] _ := hF.set (i := 6) (j := 0) (cs := #[.slice none 0 0]) (t := 24) rfl (.slice (some ⟨W.heap.size + 5, 0, none⟩) M M)
  try walk_nrm
  refine Goes.step rfl (fun _ h₁ => ?_)
  replace hF := hF.rely h₁
  clear h₁
  rw [stepG_region_end]
  simp only [goes_go]
  refine ⟨dl_nil, ?_⟩
  refine Goes.step rfl (fun _ h₁ => ?_)
  replace hF := hF.rely h₁
  clear h₁
  rw [stepG_seq]
  simp only [goes_go]
  refine ⟨dl_nil, ?_⟩
  refine Goes.step rfl (fun _ h₁ => ?_)
  replace hF := hF.rely h₁
  clear h₁
  rw [stepG_region]
  simp only [goes_go, List.size_toArray, List.length_cons, List.length_nil, Nat.reduceAdd, Nat.zero_add, List.range, List.range.loop]
  refine ⟨dl_nil, ?_⟩
  refine Goes.step rfl (fun _ h₁ => ?_)
  replace hF := hF.rely h₁
  clear h₁
  refine goes_oper_k rfl rfl (by decide) (fun K hK => ?_)
  have hx : World.cell? _ ⟨W.heap.size + 6, 0, none⟩ = some (.slice (some ⟨W.heap.size + 5, 0, none⟩) M M) := hF.cell (i := 6) (j := 0) (cs := #[.slice (some ⟨W.heap.size + 5, 0, none⟩) M M]) (t := 24) (f := (0, 0)) rfl rfl
  go_simp
  refine hK _ _ ⟨dl_read (k := [0]) (b := W.heap.size + 6) (by simp [go_sem, *]) (by omega), ?_⟩
  clear hK K hx
  try walk_nrm
  refine Goes.step rfl (fun _ h₁ => ?_)
  replace hF := hF.rely h₁
  clear h₁
  refine goes_oper_k rfl rfl (by decide) (fun K hK => ?_)
  go_simp
  refine hK _ _ ⟨(by rw [listed_nil (by simp [go_sem, conv_iw, events_store_slice, storedEv])]; exact dl_nil), ?_⟩
  clear hK K
  try walk_nrm
  refine Goes.step rfl (fun _ h₁ => ?_)
  replace hF := hF.rely h₁
  clear h₁
  refine goes_oper_k rfl rfl (by decide) (fun K hK => ?_)
  go_simp
  refine hK _ _ ⟨(by rw [listed_nil (by simp [go_sem, conv_iw, events_store_slice, storedEv])]; exact dl_nil), ?_⟩
  clear hK K
  try walk_nrm
  refine Goes.step rfl (fun _ h₁ => ?_)
  replace hF := hF.rely h₁
  clear h₁
  refine goes_call rfl rfl (by decide) rfl Try.func49 (by kernel_rfl) rfl ⟨dl_nil, ?_⟩
  walk_nrmf Try.f49
  refine Goes.step rfl (fun _ h₁ => ?_)
  replace hF := hF.rely h₁
  clear h₁
  rw [stepG_seq]
  simp only [goes_go]
  refine ⟨dl_nil, ?_⟩
  refine Goes.step rfl (fun _ h₁ => ?_)
  replace hF := hF.rely h₁
  clear h₁
  rw [stepG_region]
  simp only [goes_go, List.size_toArray, List.length_cons, List.length_nil, Nat.reduceAdd, Nat.zero_add, List.range, List.range.loop]
  refine ⟨dl_nil, ?_⟩
  refine Goes.step rfl (fun _ h₁ => ?_)
  replace hF := hF.rely h₁
  clear h₁
  refine goes_oper_k rfl rfl (by decide) (fun K hK => ?_)
  have hsz : _ = W.heap.size + 7 := hF.size
  go_simp
  refine hK _ _ ⟨(by rw [listed_nil (by simp [go_sem, *])]; exact dl_nil), ?_⟩
  clear hK K
  replace hF : PR W [.cells parts 26, .cells #[.int .i64 n, .int .i64 a] 26, .cells #[.int .u64 a] 40, .cells #[.int .i64 n] 3, .cells #[.func (.func 46) #[] #[.pointer (some ⟨W.heap.size + 2, 0, none⟩)]] 42, .cells (madeCells #[.int .i64 0] M) 3, .cells #[.slice (some ⟨W.heap.size + 5, 0, none⟩) M M] 24, .cells #[.func (.func 55) #[] #[.pointer (some ⟨W.heap.size + 3, 0, none⟩), .pointer (some ⟨W.heap.size + 4, 0, none⟩), .pointer (some ⟨W.heap.size + 6, 0, none⟩)]] 48] _ := hF.alloc (.cells #[.func (.func 55) #[] #[.pointer (some ⟨W.heap.size + 3, 0, none⟩), .pointer (some ⟨W.heap.size + 4, 0, none⟩), .pointer (some ⟨W.heap.size + 6, 0, none⟩)]] 48)
  try rw [hsz]
  clear hsz
  try walk_nrm
  refine Goes.step rfl (fun _ h₁ => ?_)
  replace hF := hF.rely h₁
  clear h₁
  rw [stepG_region_end]
  simp only [goes_go]
  refine ⟨dl_nil, ?_⟩
  refine Goes.step rfl (fun _ h₁ => ?_)
  replace hF := hF.rely h₁
  clear h₁
  rw [stepG_seq]
  simp only [goes_go]
  refine ⟨dl_nil, ?_⟩
  refine Goes.step rfl (fun _ h₁ => ?_)
  replace hF := hF.rely h₁
  clear h₁
  rw [stepG_region]
  simp only [goes_go, List.size_toArray, List.length_cons, List.length_nil, Nat.reduceAdd, Nat.zero_add, List.range, List.range.loop]
  refine ⟨dl_nil, ?_⟩
  refine Goes.step rfl (fun _ h₁ => ?_)
  replace hF := hF.rely h₁
  clear h₁
  refine goes_oper_k rfl rfl (by decide) (fun K hK => ?_)
  have hsz : _ = W.heap.size + 8 := hF.size
  go_simp
  refine hK _ _ ⟨(by rw [listed_nil (by simp [go_sem, *])]; exact dl_nil), ?_⟩
  clear hK K
  replace hF : PR W [.cells parts 26, .cells #[.int .i64 n, .int .i64 a] 26, .cells #[.int .u64 a] 40, .cells #[.int .i64 n] 3, .cells #[.func (.func 46) #[] #[.pointer (some ⟨W.heap.size + 2, 0, none⟩)]] 42, .cells (madeCells #[.int .i64 0] M) 3, .cells #[.slice (some ⟨W.heap.size + 5, 0, none⟩) M M] 24, .cells #[.func (.func 55) #[] #[.pointer (some ⟨W.heap.size + 3, 0, none⟩), .pointer (some ⟨W.heap.size + 4, 0, none⟩), .pointer (some ⟨W.heap.size + 6, 0, none⟩)]] 48, .cells #[.int .u64 0, .int .u32 0] 65] _ := hF.alloc (.cells #[.int .u64 0, .int .u32 0] 65)
  try rw [hsz]
  clear hsz
  try walk_nrm
  refine Goes.step rfl (fun _ h₁ => ?_)
  replace hF := hF.rely h₁
  clear h₁
  rw [stepG_region_end]
  simp only [goes_go]
  refine ⟨dl_nil, ?_⟩
  refine Goes.step rfl (fun _ h₁ => ?_)
  replace hF := hF.rely h₁
  clear h₁
  rw [stepG_seq]
  simp only [goes_go]
  refine ⟨dl_nil, ?_⟩
  refine Goes.step rfl (fun _ h₁ => ?_)
  replace hF := hF.rely h₁
  clear h₁
  rw [stepG_seq]
  simp only [goes_go]
  refine ⟨dl_nil, ?_⟩
  refine Goes.step rfl (fun _ h₁ => ?_)
  replace hF := hF.rely h₁
  clear h₁
  rw [stepG_region]
  simp only [goes_go, List.size_toArray, List.length_cons, List.length_nil, Nat.reduceAdd, Nat.zero_add, List.range, List.range.loop]
  refine ⟨dl_nil, ?_⟩
  refine Goes.step rfl (fun _ h₁ => ?_)
  replace hF := hF.rely h₁
  clear h₁
  refine goes_oper_k rfl rfl (by decide) (fun K hK => ?_)
  go_simp
  refine hK _ _ ⟨(by rw [listed_nil (by simp [go_sem, conv_iw, events_store_slice, storedEv])]; exact dl_nil), ?_⟩
  clear hK K
  try walk_nrm
  refine Goes.step rfl (fun _ h₁ => ?_)
  replace hF := hF.rely h₁
  clear h₁
  refine goes_oper_k rfl rfl (by decide) (fun K hK => ?_)
  go_simp
  refine hK _ _ ⟨(by rw [listed_nil (by simp [go_sem, conv_iw, events_store_slice, storedEv])]; exact dl_nil), ?_⟩
  clear hK K
  try walk_nrm
  refine Goes.step rfl (fun _ h₁ => ?_)
  replace hF := hF.rely h₁
  clear h₁
  rw [stepG_region_end]
  simp only [goes_go]
  refine ⟨dl_nil, ?_⟩
  refine Goes.step rfl (fun _ h₁ => ?_)
  replace hF := hF.rely h₁
  clear h₁
  rw [stepG_block]
  simp only [goes_go]
  refine ⟨dl_nil, ?_⟩
  refine Goes.step rfl (fun _ h₁ => ?_)
  replace hF := hF.rely h₁
  clear h₁
  rw [stepG_loop]
  simp only [goes_go]
  refine ⟨dl_nil, ?_⟩
  refine Goes.stop fun w₂ r₂ => ?_
  replace hF := hF.rely r₂
  simp only [Wk.L64, Wk.R64, Wk.body64, Try.f49, Option.getD_some, Wk.c47, Wk.ops2, Wk.tail2, Wk.body47, Try.f38, Wk.c26, Wk.ops5a, Wk.body26, Try.f26]
  refine ⟨_, _, _, ?_, rfl, ?_, hF⟩
  · rfl
  · refine ⟨ha, hn, hM.symm, ⟨?_, ?_, ?_, ?_, ?_⟩, hF.size, ?_, ⟨_, hF.blk 5 _ rfl, size_madeCells _ _⟩, rfl, rfl, rfl, rfl, rfl, rfl, rfl⟩
    · exact hF.cell (i := 2) (j := 0) rfl rfl
    · exact hF.cell (i := 3) (j := 0) rfl rfl
    · exact hF.cell (i := 4) (j := 0) rfl rfl
    · exact hF.cell (i := 6) (j := 0) rfl rfl
    · exact hF.cell (i := 7) (j := 0) rfl rfl
    · unfold WgAt wgBlock
      exact hF.blk 8 _ rfl

end Go.Proofs.Ytechkghnmgimbaa
