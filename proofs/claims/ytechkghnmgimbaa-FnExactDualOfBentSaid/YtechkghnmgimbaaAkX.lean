/-
  Chapter 12: AutocorrelationOf's phase beside its twin.
-/
import Derived.Test.YtechkghnmgimbaaWkX
import Derived.Test.YtechkghnmgimbaaAkA
import Derived.Test.YtechkghnmgimbaaAwA
namespace Go.Proofs.Ytechkghnmgimbaa
open Go.Conc Go.ConcN Go.RowKit Go.Conc.Lib Go.ConcR.Gen Go.ConcN.Gen Plain Go.Veiled
open Go.ConcR (KK wgBlock WgAt stA smA rd wr mk Payload Aside2 DC0 ofEvent_cell)
set_option linter.unusedVariables false
set_option linter.unusedSimpArgs false
set_option linter.unusedSectionVars false

set_option maxRecDepth 100000 in
set_option maxHeartbeats 4000000 in
theorem Aut.shape {args : Array Value} {c : Frame} {l : List Frame} {v : World} {R : Value → World → Prop} (hn : NiceSt (T := Tq.T) (F1 := Tq.fs) ⟨Frame.enter (Program.mk Tq.T Tq.fs) 26 args .normal, c :: l, v⟩) (he : Go.Veiled.Ends Tq.T Tq.fs R ⟨Frame.enter (Program.mk Tq.T Tq.fs) 26 args .normal, c :: l, v⟩) :
    ∃ (parts : Array Value) (n a : Int) (u1 u2 u3 u4 u5 u6 u7 u8 u9 u10 u11 u12 u13 : Value), args ++ Array.replicate (14 - args.size) undef = #[.agg parts, u1, u2, u3, u4, u5, u6, u7, u8, u9, u10, u11, u12, u13] ∧ parts[0]? = some (.int .i64 n) ∧ parts[1]? = some (.int .i64 a) ∧ (-9223372036854775808 ≤ n ∧ n ≤ 9223372036854775807) ∧ (-9223372036854775808 ≤ a ∧ a ≤ 9223372036854775807) := by
  have hT := Tq.twin_self
  obtain ⟨A, hA⟩ : ∃ A, args ++ Array.replicate (14 - args.size) undef = A := ⟨_, rfl⟩
  have hent : Frame.enter (Program.mk Tq.T Tq.fs) 26 args .normal = (base 26).at ⟨A, []⟩ [.code Tq.body26] := by
    have h1 : (Program.mk Tq.T Tq.fs).funcs[26]? = some Tq.f26 := Tq.func26
    have h2 : Tq.f26.ntmps = 14 := Tq.ntmps26
    rw [← hA]
    simp [Frame.enter, h1, h2, Frame.at, base]
  rw [hent] at hn he
  have hsz : 14 ≤ A.size := by rw [← hA]; simp; omega
  simp only [Tq.body26, Tq.bodyA, Tq.sums, Tq.reg, Tq.o, Tq.st, Tq.cl, Tq.i0, Tq.i1, Tq.none0] at hn he
  obtain ⟨hn, he⟩ := ends_go hT hn he rfl (fun k => stepG_seq)
  obtain ⟨hn, he⟩ := ends_go hT hn he rfl (fun k => stepG_region)
  simp only [List.size_toArray, List.length_cons, List.length_nil, Nat.reduceAdd, Nat.zero_add, List.range, List.range.loop] at hn he
  obtain ⟨x, hx⟩ : ∃ x, (Act.mk A []).eval (.tmp 0) = x := ⟨_, rfl⟩
  obtain ⟨a0, ha0⟩ : ∃ a0, Act.mk A [] = a0 := ⟨_, rfl⟩
  have hz0 : a0.tmps.size = A.size := by rw [← ha0]
  rw [ha0] at hn he hx
  obtain ⟨a1, ha⟩ : ∃ a1, a0.put (some 1) (.pointer (some ⟨v.heap.size, 0, none⟩)) = a1 := ⟨_, rfl⟩
  obtain ⟨hn, he⟩ := ends_put (v' := v.alloc (.cells x.cells 26)) 1 a1 ha hT hn he rfl rfl rfl (by decide) (by
      intro ρ hρ
      change Sem.run Tq.prog _ _ = _
      rw [← hρ] at hx; clear hρ
      unfold execOp; simp [go_sem, hx])
  have e1 : a1.eval (.tmp 1) = .pointer (some ⟨v.heap.size, 0, none⟩) := by rw [← ha]; exact put_same (by omega)
  have e3 : a1.tmps.size = A.size := by rw [← ha]; exact put_size.trans hz0
  obtain ⟨a2, ha⟩ : ∃ a2, a1.put (some 2) (.slice none 0 0) = a2 := ⟨_, rfl⟩
  obtain ⟨hn, he⟩ := ends_put (v' := v.alloc (.cells x.cells 26)) 2 a2 ha hT hn he rfl rfl rfl (by decide) (by
      intro ρ hρ
      change Sem.run Tq.prog _ _ = _
      subst hρ
      unfold execOp; simp [go_sem, Act.eval])
  have f1 : a2.eval (.tmp 1) = .pointer (some ⟨v.heap.size, 0, none⟩) := by rw [← ha]; exact (put_other (by decide)).trans e1
  have f3 : a2.tmps.size = A.size := by rw [← ha]; exact put_size.trans e3
  obtain ⟨hn, he⟩ := ends_go hT hn he rfl (fun k => stepG_region_end)
  obtain ⟨hn, he⟩ := ends_go hT hn he rfl (fun k => stepG_seq)
  have hb : (v.alloc (.cells x.cells 26)).heap[v.heap.size]? = some (.cells x.cells 26) := ((PR.refl v).alloc (.cells x.cells 26)).blk 0 _ rfl
  generalize v.alloc (.cells x.cells 26) = W at hn he hb
  generalize v.heap.size = N at hn he hb f1
  obtain ⟨n, a1', h0, hr0, hz, h1, hn, he⟩ := Spc.probe_ok (.inl rfl) (by decide) hb hsz f3 f1 hn he
  obtain ⟨hn, he⟩ := ends_go hT hn he rfl (fun k => stepG_seq)
  obtain ⟨a, a2', h2, hr2, hz, h1, hn, he⟩ := Spc.probe_ok (.inr rfl) (by decide) hb hsz hz h1 hn he
  obtain ⟨hn, he⟩ := ends_go hT hn he rfl (fun k => stepG_seq)
  have h14 := Spc.few_ok (by decide) hsz hz hn he
  obtain ⟨parts, n', a', hxp, q0, q1, q2, q3⟩ := agg_parts h0 h2 hr0 hr2
  obtain ⟨v0, u1, u2, u3, u4, u5, u6, u7, u8, u9, u10, u11, u12, u13, hlit⟩ := Wk.array14 A h14
  have hv0 : v0 = .agg parts := by
    rw [← hxp, ← hx, ← ha0, hlit]
    rfl
  exact ⟨parts, n', a', u1, u2, u3, u4, u5, u6, u7, u8, u9, u10, u11, u12, u13, by rw [hA, hlit, hv0], q0, q1, q2, q3⟩

/-- The blocks that the prologue makes. -/
abbrev Wk.proA (parts : Array Value) (n a N M : Nat) : List Obj := [.cells parts 26, .cells #[.int .i64 n, .int .i64 a] 26, .cells #[.int .u64 a] 40, .cells #[.int .i64 n] 3, .cells #[.func (.func 46) #[] #[.pointer (some ⟨N + 2, 0, none⟩)]] 42, .cells (madeCells #[.int .i64 0] M) 3, .cells #[.slice (some ⟨N + 5, 0, none⟩) M M] 24, .cells #[.func (.func 55) #[] #[.pointer (some ⟨N + 3, 0, none⟩), .pointer (some ⟨N + 4, 0, none⟩), .pointer (some ⟨N + 6, 0, none⟩)]] 48, .cells #[.int .u64 0, .int .u32 0] 65]

/-- A table: but for the two functions' boxes and the group the memory is the same. -/
theorem Aut.veil_yes {Lo : Nat → Option Obj} {v w v2 w' W1 : World} {parts : Array Value} {n a M : Nat} {X : Nat → Question → Nat} {d : Nat} {u : Value} (hv : Veil Lo (v.retape w.tape w.drawn) w) (h2 : PR (v.retape X d) (Q.Spc.made parts n a v.heap.size M (autV a) M M) v2) (h1 : PR w (Wk.proA parts n a w.heap.size M) W1) (hP : Wk.PostE (w.heap.size + 2) W1 M (autV a) u w') :
    u = .slice (some ⟨v.heap.size + 5, 0, none⟩) M M ∧ Veil Lo (v2.retape w'.tape w'.drawn) w' := by
  have hz : v.heap.size = w.heap.size := hv.size
  obtain ⟨hu, hf, hc, hg⟩ := hP
  obtain ⟨cg, fg, hg⟩ := wg_cells hg
  refine ⟨by rw [hu, hz], ?_⟩
  have hs2 : v2.heap.size = v.heap.size + (9 + M) := by rw [h2.size, Q.Spc.made_len]; rfl
  have hs1 : w'.heap.size = w.heap.size + (9 + M) := by rw [hc.size]; omega
  have hkeep : ∀ b, b < w.heap.size + 9 → b ≠ w.heap.size + 5 → b ≠ w.heap.size + 8 → w'.heap[b]? = W1.heap[b]? := fun b e1 e2 e3 => hc.keep b (by omega) (by omega) (by omega)
  refine veil_of hv h2.os (hc.os.trans h1.os) h2.output (hc.output.trans h1.output) hs2 hs1 h2.keep (fun b hb => (hkeep b (by omega) (by omega) (by omega)).trans (h1.keep b hb)) fun i hi => ?_
  have real : ∀ j o, (Wk.proA parts n a w.heap.size M)[j]? = some o → j < 9 → j ≠ 5 → j ≠ 8 → w'.heap[v.heap.size + j]? = some o := by
    intro j o ho e1 e2 e3
    rw [hz, hkeep _ (by omega) (by omega) (by omega)]
    exact h1.blk j o ho
  have twin : ∀ j o, (Q.Spc.made parts n a v.heap.size M (autV a) M M)[j]? = some o → v2.heap[v.heap.size + j]? = some o := fun j o ho => h2.blk j o ho
  by_cases h9 : i < 9
  · have : i = 0 ∨ i = 1 ∨ i = 2 ∨ i = 3 ∨ i = 4 ∨ i = 5 ∨ i = 6 ∨ i = 7 ∨ i = 8 := by omega
    rcases this with rfl | rfl | rfl | rfl | rfl | rfl | rfl | rfl | rfl
    · have t := twin 0 _ (Q.Spc.made_at parts n a v.heap.size M (autV a) M M 0 _ (by omega) rfl)
      exact ⟨fun h => (by rw [t] at h; cases h), .inl (t.trans (real 0 _ rfl (by omega) (by omega) (by omega)).symm)⟩
    · have t := twin 1 _ (Q.Spc.made_at parts n a v.heap.size M (autV a) M M 1 _ (by omega) rfl)
      exact ⟨fun h => (by rw [t] at h; cases h), .inl (t.trans (real 1 _ rfl (by omega) (by omega) (by omega)).symm)⟩
    · have t := twin 2 _ (Q.Spc.made_at parts n a v.heap.size M (autV a) M M 2 _ (by omega) rfl)
      exact ⟨fun h => (by rw [t] at h; cases h), .inl (t.trans (real 2 _ rfl (by omega) (by omega) (by omega)).symm)⟩
    · have t := twin 3 _ (Q.Spc.made_at parts n a v.heap.size M (autV a) M M 3 _ (by omega) rfl)
      exact ⟨fun h => (by rw [t] at h; cases h), .inl (t.trans (real 3 _ rfl (by omega) (by omega) (by omega)).symm)⟩
    · have t := twin 4 _ (Q.Spc.made_at parts n a v.heap.size M (autV a) M M 4 _ (by omega) rfl)
      exact ⟨fun h => (by rw [t] at h; cases h), .inr ⟨_, _, _, _, t, real 4 _ rfl (by omega) (by omega) (by omega)⟩⟩
    · have t := twin 5 _ (Q.Spc.made_at parts n a v.heap.size M (autV a) M M 5 _ (by omega) rfl)
      refine ⟨fun h => (by rw [t] at h; cases h), .inl (t.trans ?_)⟩
      have hf : w'.heap[w.heap.size + 2 + 3]? = some (.cells (Wk.vals (autV a) M).toArray 3) := hf
      rw [← Wk.rowS_full] at hf
      rw [hz]
      exact hf.symm
    · have t := twin 6 _ (Q.Spc.made_at parts n a v.heap.size M (autV a) M M 6 _ (by omega) rfl)
      refine ⟨fun h => (by rw [t] at h; cases h), .inl (t.trans ?_)⟩
      have r := real 6 _ rfl (by omega) (by omega) (by omega)
      rw [← hz] at r
      exact r.symm
    · have t := twin 7 _ (Q.Spc.made_at parts n a v.heap.size M (autV a) M M 7 _ (by omega) rfl)
      exact ⟨fun h => (by rw [t] at h; cases h), .inr ⟨_, _, _, _, t, real 7 _ rfl (by omega) (by omega) (by omega)⟩⟩
    · have t := twin 8 _ (Q.Spc.made_at parts n a v.heap.size M (autV a) M M 8 _ (by omega) rfl)
      rw [hz] at t ⊢
      exact ⟨fun h => (by rw [t] at h; cases h), .inr ⟨_, _, _, _, t, hg⟩⟩
  · obtain ⟨k, rfl⟩ : ∃ k, i = 9 + k := ⟨i - 9, by omega⟩
    have hk : k < M := by omega
    have t := twin (9 + k) (.cells #[.int .i64 k] 3) (by
      unfold Q.Spc.made
      rw [List.getElem?_append_right (by simp)]
      simp only [List.length_cons, List.length_nil, Nat.reduceAdd, Nat.add_sub_cancel_left]
      exact Wk.kbs_get _ hk)
    refine ⟨fun h => (by rw [t] at h; cases h), .inl (t.trans ?_)⟩
    have r := hc.kb k hk
    rw [show w.heap.size + 2 + 7 + k = v.heap.size + (9 + k) from by omega] at r
    exact r.symm

def Aut.SpecY (parts : Array Value) (m b : Nat) (v : World) (val : Value) (v2 : World) : Prop := val = .slice (some ⟨v.heap.size + 5, 0, none⟩) (2 ^ m) (2 ^ m) ∧ ∃ X d, PR (v.retape X d) (Q.Spc.made parts m b v.heap.size (2 ^ m) (autV b) (2 ^ m) (2 ^ m)) v2
def Aut.SpecN (parts : Array Value) (n a : Int) (v : World) (val : Value) (v2 : World) : Prop := val = .slice none 0 0 ∧ ∃ X d, PR (v.retape X d) [.cells parts 26, .cells #[.int .i64 n, .int .i64 a] 26] v2

set_option maxRecDepth 100000 in
theorem Aut.phase_yes (args parts : Array Value) (u1 u2 u3 u4 u5 u6 u7 u8 u9 u10 u11 u12 u13 : Value) (hargs : args ++ Array.replicate (14 - args.size) undef = #[.agg parts, u1, u2, u3, u4, u5, u6, u7, u8, u9, u10, u11, u12, u13]) (m b : Nat) (hp0 : parts[0]? = some (.int .i64 m)) (hp1 : parts[1]? = some (.int .i64 b)) (hm : m ≤ 5) (hb2 : (b : Int) ≤ 4294967295) (hIs : isT m b = true) (c : Frame) (l : List Frame) (v : World) (Lo : Nat → Option Obj) (gs : Array Goroutine) (w : World) (sl : Option (Nat × Nat)) (t : Trace) (q : Nat → Nat) (Shun : Loc → Prop) (B : Nat) (H : Held Lo Tq.T Try.prog.funcs (Frame.enter (Program.mk Tq.T Try.prog.funcs) 26 args .normal) (c :: l) v gs w t q Shun B) :
    ∃ (N : Nat) (gs' : Array Goroutine) (w' : World) (sl' : Option (Nat × Nat)) (t' : Trace) (q' : Nat → Nat) (Shun' : Loc → Prop) (B' : Nat),
      runNT (Program.mk Tq.T Try.prog.funcs) N (crowd gs w sl) t = (.next (crowd gs' w' sl'), t') ∧ ∀ val v2, Aut.SpecY parts m b v val v2 → Held Lo Tq.T Try.prog.funcs (c.finish val) l v2 gs' w' t' q' Shun' B' := by
  obtain ⟨k1, hyes⟩ := Wk.prologueA
  have hvs : v.heap.size = w.heap.size := H.veil.size
  have hS : ∀ l, Shun l → ∃ a, l = .cell a ∧ a.block < w.heap.size := fun l hl => by
    obtain ⟨a, e, hb⟩ := H.shun l hl
    exact ⟨a, e, hvs ▸ blind_lt hb⟩
  have hE : Wk.Elder Shun (w.heap.size + 2) := fun l hl => by
    obtain ⟨a, e, hb⟩ := hS l hl
    exact ⟨a, e, by omega⟩
  have H' : Held Lo Tq.T Try.prog.funcs (Frame.enter (Program.mk Tq.T Try.prog.funcs) 26 args .normal) (c :: l) v gs w t q Shun (max B (w.heap.size + 20)) := ⟨H.g0, H.veil, H.leavers, H.past.mono (Nat.le_max_left _ _), H.shun⟩
  refine phase_held (Lf := Tq.calls) (K := fun S' => S' = ShN (w.heap.size + 2 + 6)) (Post := fun u w' => ∃ W1, PR w (Wk.proA parts m b w.heap.size (2 ^ m)) W1 ∧ Wk.PostE (w.heap.size + 2) W1 (2 ^ m) (autV b) u w') (D := DL w.heap.size (w.heap.size + 20)) (n0 := k1) Tq.mild Tq.no_init sl H' (fun w1 w2 es h => dl_evl hS (Nat.le_max_right _ _) h) ?_ ?_ ?_ ?_
  · rintro S rfl val v2 ⟨_, X, d, hp⟩ x ⟨ad, rfl, hbk⟩
    refine ⟨ad, rfl, ?_⟩
    have t := hp.blk 8 _ (Q.Spc.made_at parts m b v.heap.size (2 ^ m) (autV b) (2 ^ m) (2 ^ m) 8 _ (by omega) rfl)
    have t : v2.heap[v.heap.size + 8]? = some (.cells #[] 65) := t
    rw [hvs, show w.heap.size + 8 = ad.block from by omega] at t
    unfold Blind
    rw [t]
    rfl
  · rintro val v2 ⟨_, X, d, hp⟩ r hr
    exact pr_blind hp hr
  · rintro u w' ⟨W1, hW, hP⟩ val v2 ⟨rfl, X, d, hp⟩
    exact Aut.veil_yes H.veil hp hW hP
  · refine goes_mono ?_ (hyes w args parts u1 u2 u3 u4 u5 u6 u7 u8 u9 u10 u11 u12 u13 hargs m b c l hp0 hp1 hm hb2 hIs)
    rintro g w1 ⟨T, T1, T2, h2, rfl, hH, hW⟩
    exact ready_post (Wk.ready26 hE hH h2 (c :: l)) fun u w' h => ⟨w1, hW, h⟩

set_option maxRecDepth 100000 in
theorem Aut.phase_no (args parts : Array Value) (u1 u2 u3 u4 u5 u6 u7 u8 u9 u10 u11 u12 u13 : Value) (hargs : args ++ Array.replicate (14 - args.size) undef = #[.agg parts, u1, u2, u3, u4, u5, u6, u7, u8, u9, u10, u11, u12, u13]) (n a : Int) (hp0 : parts[0]? = some (.int .i64 n)) (hp1 : parts[1]? = some (.int .i64 a)) (hnr : -9223372036854775808 ≤ n ∧ n ≤ 9223372036854775807) (har : -9223372036854775808 ≤ a ∧ a ≤ 9223372036854775807) (hIs : isT n a = false) (c : Frame) (l : List Frame) (v : World) (Lo : Nat → Option Obj) (gs : Array Goroutine) (w : World) (sl : Option (Nat × Nat)) (t : Trace) (q : Nat → Nat) (Shun : Loc → Prop) (B : Nat) (H : Held Lo Tq.T Try.prog.funcs (Frame.enter (Program.mk Tq.T Try.prog.funcs) 26 args .normal) (c :: l) v gs w t q Shun B) :
    ∃ (N : Nat) (gs' : Array Goroutine) (w' : World) (sl' : Option (Nat × Nat)) (t' : Trace) (q' : Nat → Nat) (Shun' : Loc → Prop) (B' : Nat),
      runNT (Program.mk Tq.T Try.prog.funcs) N (crowd gs w sl) t = (.next (crowd gs' w' sl'), t') ∧ ∀ val v2, Aut.SpecN parts n a v val v2 → Held Lo Tq.T Try.prog.funcs (c.finish val) l v2 gs' w' t' q' Shun' B' := by
  obtain ⟨k0, hno⟩ := Wk.prologueA_no
  have hvs : v.heap.size = w.heap.size := H.veil.size
  have hS : ∀ l, Shun l → ∃ a, l = .cell a ∧ a.block < w.heap.size := fun l hl => by
    obtain ⟨a, e, hb⟩ := H.shun l hl
    exact ⟨a, e, hvs ▸ blind_lt hb⟩
  obtain ⟨N1, gs1, a1, w1, sl1, t1, q1, hr, hsz, hg0, ⟨rfl, hW⟩, hL1, hP1⟩ := walk_beside (B := max B (w.heap.size + 20)) (fun w1 w2 es h => dl_evl hS (Nat.le_max_right B _) h) _ k0 gs _ w sl t q (Nat.le_refl _) H.g0 H.leavers (H.past.mono (Nat.le_max_left _ _)) (hno w args parts u1 u2 u3 u4 u5 u6 u7 u8 u9 u10 u11 u12 u13 hargs n a c l hp0 hp1 har hIs)
  refine ⟨N1, gs1, w1, sl1, t1, q1, Shun, max B (w.heap.size + 20), hr, ?_⟩
  rintro val v2 ⟨rfl, X, d, hp⟩
  refine ⟨hg0, Spc.veil_no H.veil hp hW fun i h => ?_, hL1, hP1, fun x hx => ?_⟩
  · match i, h with
    | 0, h => cases h
    | 1, h => cases h
    | i + 2, h => cases h
  · obtain ⟨ad, e, hb⟩ := H.shun x hx
    exact ⟨ad, e, pr_blind hp hb⟩

end Go.Proofs.Ytechkghnmgimbaa
