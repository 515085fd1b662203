/-
  Chapter 12: what the twin's run tells of SpectrumOf's argument.
-/
import Derived.Test.YtechkghnmgimbaaGoX
import Derived.Test.YtechkghnmgimbaaTqT
import Derived.Test.YtechkghnmgimbaaWkP
namespace Go.Proofs.Ytechkghnmgimbaa
open Go.Conc Go.RowKit Go.Veiled
set_option linter.unusedVariables false
set_option linter.unusedSimpArgs false

theorem noCell_bad (w : World) (a : Addr) (s : String) : (∃ y, w.noCell a s = .stuck y) ∨ ∃ y, w.noCell a s = .unsupported y := by
  unfold World.noCell
  repeat' split
  all_goals first | exact .inl ⟨_, rfl⟩ | exact .inr ⟨_, rfl⟩

abbrev Halt.bad (o : Halt) : Prop := (∃ y, o = .stuck y) ∨ ∃ y, o = .unsupported y
theorem float_run (s : FloatKind) (b : Nat) (w : World) : ∃ n w', Sem.run Tq.prog (Conv.floatToInt s b .i64) w = .ok (.int .i64 n) w' := by
  unfold Conv.floatToInt
  simp only
  split
  · split
    · exact ⟨_, _, by simp [go_sem]; exact ⟨rfl, rfl⟩⟩
    · simp [go_sem]
  · simp [go_sem]
theorem conv_run (y : Value) (w : World) : (∃ k n, y = .int k n) ∨ (∃ s b, y = .float s b ∧ ∃ n w', Sem.run Tq.prog (convert 3 3 y) w = .ok (.int .i64 n) w') ∨ ∃ o w', Halt.bad o ∧ Sem.run Tq.prog (convert 3 3 y) w = .halt o w' := by
  cases y
  case int k n => exact .inl ⟨k, n, rfl⟩
  case float s b =>
    refine .inr (.inl ⟨s, b, rfl, ?_⟩)
    obtain ⟨n, w', h⟩ := float_run s b w
    exact ⟨n, w', by simp [convert, go_sem, h]⟩
  case pointer a =>
    refine .inr (.inr ?_)
    cases a <;> simp [convert, go_sem] <;> exact .inr ⟨_, rfl⟩
  all_goals refine .inr (.inr ?_); simp [convert, go_sem]; exact .inr ⟨_, rfl⟩
theorem eql_float (s : FloatKind) (b : Nat) (n : Int) (w : World) : ∃ o w', Halt.bad o ∧ Sem.run Tq.prog (binOp .eql 3 (.float s b) (.int .i64 n)) w = .halt o w' := by
  simp [binOp, Op.equal, Op.equalIn, Op.maxDepth, go_sem]
  exact .inl ⟨_, rfl⟩
theorem eql_kind (k : IntKind) (hk : k ≠ .i64) (m n : Int) (w : World) : ∃ o w', Halt.bad o ∧ Sem.run Tq.prog (binOp .eql 3 (.int k m) (.int .i64 n)) w = .halt o w' := by
  simp [binOp, go_sem, hk]
  exact .inl ⟨_, rfl⟩

theorem agg_parts {x : Value} {n a : Int} (h0 : x.cells[0]? = some (.int .i64 n)) (h1 : x.cells[1]? = some (.int .i64 a)) (hn : n = IntKind.i64.wrap n) (ha : a = IntKind.i64.wrap a) :
    ∃ (parts : Array Value) (n a : Int), x = .agg parts ∧ parts[0]? = some (.int .i64 n) ∧ parts[1]? = some (.int .i64 a) ∧ (-9223372036854775808 ≤ n ∧ n ≤ 9223372036854775807) ∧ (-9223372036854775808 ≤ a ∧ a ≤ 9223372036854775807) := by
  rw [IntKind.wrap_i64] at hn ha
  have hx : ∃ parts, x = .agg parts := by
    cases x
    case agg parts => exact ⟨parts, rfl⟩
    all_goals simp [Value.cells] at h1
  obtain ⟨parts, rfl⟩ := hx
  exact ⟨parts, n, a, rfl, h0, h1, by omega, by omega⟩

theorem put_same {a : Act} {d : Nat} {u : Value} (h : d < a.tmps.size) : (a.put (some d) u).eval (.tmp d) = u := by
  simp [Act.put, Act.eval, h]
theorem put_other {a : Act} {d e : Nat} {u : Value} (h : d ≠ e) : (a.put (some d) u).eval (.tmp e) = a.eval (.tmp e) := by
  simp [Act.put, Act.eval, h]
theorem put_size {a : Act} {d : Nat} {u : Value} : (a.put (some d) u).tmps.size = a.tmps.size := by
  simp [Act.put]

theorem ends_put {T : Tables} {F1 : Array Func} {R : Value → World → Prop} {b : Frame} {l : List Frame} {v v' : World} {a : Act} {ops : Array Oper} {i : Nat} {rest : List Nat} {k : List Item} {o : Oper} {u : Value} (d : Nat) (a' : Act) (ha : a.put (some d) u = a') (hT : Go.Veiled.Twin T F1 F1 (fun _ => False)) (hn : NiceSt (T := T) (F1 := F1) ⟨b.at a (.inRegion ops (i :: rest) :: k), l, v⟩) (he : Go.Veiled.Ends T F1 R ⟨b.at a (.inRegion ops (i :: rest) :: k), l, v⟩)
    (ho : ops[i]? = some o) (hd : o.dst = some d) (hw : Region.wanted o (yielded ops a.tmps) = true) (hk : b.kind ≠ .early) (hr : ∀ ρ, ρ = a.eval → (execOp ρ o).run (Program.mk T F1) v = .ok (.value u) v') :
    NiceSt (T := T) (F1 := F1) ⟨b.at a' (.inRegion ops rest :: k), l, v'⟩ ∧ Go.Veiled.Ends T F1 R ⟨b.at a' (.inRegion ops rest :: k), l, v'⟩ := by
  subst ha
  have := ends_val hT hn he ho hw hk (hr _ rfl)
  rwa [hd] at this
theorem ends_no {T : Tables} {F1 : Array Func} {R : Value → World → Prop} {b : Frame} {l : List Frame} {v v' : World} {a : Act} {ops : Array Oper} {i : Nat} {rest : List Nat} {k : List Item} {o : Oper} (hT : Go.Veiled.Twin T F1 F1 (fun _ => False)) (hn : NiceSt (T := T) (F1 := F1) ⟨b.at a (.inRegion ops (i :: rest) :: k), l, v⟩) (he : Go.Veiled.Ends T F1 R ⟨b.at a (.inRegion ops (i :: rest) :: k), l, v⟩)
    (ho : ops[i]? = some o) (hw : Region.wanted o (yielded ops a.tmps) = true) {x : Halt} (hx : (∃ y, x = .stuck y) ∨ ∃ y, x = .unsupported y) (hr : ∀ ρ, ρ = a.eval → (execOp ρ o).run (Program.mk T F1) v = .halt x v') : False :=
  ends_halt hT hn he ho hw hx (hr _ rfl)

theorem Spc.probe_ok {i : Nat} {b : Frame} {a : Act} {k : List Item} {l : List Frame} {W : World} {N : Nat} {cells : Array Value} {t : TypeId} {R : Value → World → Prop} (hi : i = 0 ∨ i = 1) (hk : b.kind ≠ .early) (hb : W.heap[N]? = some (.cells cells t)) {s : Nat} (hs14 : 14 ≤ s) (hz : a.tmps.size = s) (h1 : a.eval (.tmp 1) = .pointer (some ⟨N, 0, none⟩))
    (hn : NiceSt (T := Tq.T) (F1 := Tq.fs) ⟨b.at a (.code (Tq.probe i) :: k), l, W⟩) (he : Go.Veiled.Ends Tq.T Tq.fs R ⟨b.at a (.code (Tq.probe i) :: k), l, W⟩) :
    ∃ n a', cells[i]? = some (.int .i64 n) ∧ n = IntKind.i64.wrap n ∧ a'.tmps.size = s ∧ a'.eval (.tmp 1) = .pointer (some ⟨N, 0, none⟩) ∧ NiceSt (T := Tq.T) (F1 := Tq.fs) ⟨b.at a' k, l, W⟩ ∧ Go.Veiled.Ends Tq.T Tq.fs R ⟨b.at a' k, l, W⟩ := by
  have hT := Tq.twin_self
  have hcell : W.cell? ⟨N, i, none⟩ = cells[i]? := by
    unfold World.cell?
    rw [hb]
    rfl
  have hfar : ∀ m, W.farLoad Tq.prog ⟨N, i, none⟩ m = .error (W.noCell ⟨N, i, none⟩ "load: no such cell") := by
    intro m
    unfold World.farLoad
    rw [hb]
  unfold Tq.probe at hn he
  obtain ⟨hn, he⟩ := ends_go hT hn he rfl (fun k => stepG_seq)
  unfold Tq.reg at hn he
  obtain ⟨hn, he⟩ := ends_go hT hn he rfl (fun k => stepG_region)
  simp only [List.size_toArray, List.length_cons, List.length_nil, Nat.reduceAdd, Nat.zero_add, List.range, List.range.loop] at hn he
  obtain ⟨a1, ha⟩ : ∃ a1, a.put (some 10) (.pointer (some ⟨N, i, none⟩)) = a1 := ⟨_, rfl⟩
  obtain ⟨hn, he⟩ := ends_put (v' := W) 10 a1 ha hT hn he rfl rfl rfl hk (by
      intro ρ hρ
      change Sem.run Tq.prog _ _ = _
      rw [← hρ] at h1; clear hρ
      unfold execOp; rcases hi with rfl | rfl <;> simp [go_sem, Tq.o, h1])
  have e1 : a1.eval (.tmp 1) = .pointer (some ⟨N, 0, none⟩) := by rw [← ha]; exact (put_other (by decide)).trans h1
  have e2 : a1.eval (.tmp 10) = .pointer (some ⟨N, i, none⟩) := by rw [← ha]; exact put_same (by omega)
  have e3 : a1.tmps.size = s := by rw [← ha]; exact put_size.trans hz
  clear h1 hz
  rcases h0 : cells[i]? with _ | y
  · rw [h0] at hcell
    exact (ends_no (v' := W) hT hn he rfl rfl (noCell_bad W ⟨N, i, none⟩ "load: no such cell") (by
      intro ρ hρ
      change Sem.run Tq.prog _ _ = _
      rw [← hρ] at e2; clear hρ
      unfold execOp; simp [Tq.o, go_sem, e2, hcell, hfar])).elim
  rw [h0] at hcell
  obtain ⟨a2, ha⟩ : ∃ a2, a1.put (some 10) (y) = a2 := ⟨_, rfl⟩
  obtain ⟨hn, he⟩ := ends_put (v' := W) 10 a2 ha hT hn he rfl rfl rfl hk (by
      intro ρ hρ
      change Sem.run Tq.prog _ _ = _
      rw [← hρ] at e2; clear hρ
      unfold execOp; simp [Tq.o, go_sem, e2, hcell])
  have f1 : a2.eval (.tmp 1) = .pointer (some ⟨N, 0, none⟩) := by rw [← ha]; exact (put_other (by decide)).trans e1
  have f2 : a2.eval (.tmp 10) = y := by rw [← ha]; exact put_same (by omega)
  have f3 : a2.tmps.size = s := by rw [← ha]; exact put_size.trans e3
  clear e1 e2 e3 hcell hfar
  rcases conv_run y W with ⟨k', n, rfl⟩ | ⟨s, bb, rfl, m, W1, hc⟩ | ⟨o, W1, ho, hc⟩
  rotate_left
  · obtain ⟨a3, ha⟩ : ∃ a3, a2.put (some 11) (.int .i64 m) = a3 := ⟨_, rfl⟩
    obtain ⟨hn, he⟩ := ends_put (v' := W1) 11 a3 ha hT hn he rfl rfl rfl hk (by
      intro ρ hρ
      change Sem.run Tq.prog _ _ = _
      rw [← hρ] at f2; clear hρ
      unfold execOp; simp [Tq.o, go_sem, f2, hc])
    have g1 : a3.eval (.tmp 10) = .float s bb := by rw [← ha]; exact (put_other (by decide)).trans f2
    have g2 : a3.eval (.tmp 11) = .int .i64 m := by rw [← ha]; exact put_same (by omega)
    obtain ⟨o, w', ho, hq⟩ := eql_float s bb m W1
    exact (ends_no (v' := w') hT hn he rfl rfl ho (by
      intro ρ hρ
      change Sem.run Tq.prog _ _ = _
      rw [← hρ] at g1 g2; clear hρ
      unfold execOp; simp [Tq.o, go_sem, g1, g2, hq])).elim
  · exact (ends_no (v' := W1) hT hn he rfl rfl ho (by
      intro ρ hρ
      change Sem.run Tq.prog _ _ = _
      rw [← hρ] at f2; clear hρ
      unfold execOp; simp [Tq.o, go_sem, f2, hc])).elim
  obtain ⟨a3, ha⟩ : ∃ a3, a2.put (some 11) (.int .i64 (IntKind.i64.wrap n)) = a3 := ⟨_, rfl⟩
  obtain ⟨hn, he⟩ := ends_put (v' := W) 11 a3 ha hT hn he rfl rfl rfl hk (by
      intro ρ hρ
      change Sem.run Tq.prog _ _ = _
      rw [← hρ] at f2; clear hρ
      unfold execOp; simp [Tq.o, go_sem, f2, convert])
  have g1 : a3.eval (.tmp 10) = .int k' n := by rw [← ha]; exact (put_other (by decide)).trans f2
  have g2 : a3.eval (.tmp 11) = .int .i64 (IntKind.i64.wrap n) := by rw [← ha]; exact put_same (by omega)
  have g3 : a3.eval (.tmp 1) = .pointer (some ⟨N, 0, none⟩) := by rw [← ha]; exact (put_other (by decide)).trans f1
  have g4 : a3.tmps.size = s := by rw [← ha]; exact put_size.trans f3
  clear f1 f2 f3
  by_cases hk' : k' = .i64
  rotate_left
  · obtain ⟨o, w', ho, hq⟩ := eql_kind k' hk' n (IntKind.i64.wrap n) W
    exact (ends_no (v' := w') hT hn he rfl rfl ho (by
      intro ρ hρ
      change Sem.run Tq.prog _ _ = _
      rw [← hρ] at g1 g2; clear hρ
      unfold execOp; simp [Tq.o, go_sem, g1, g2, hq])).elim
  subst hk'
  obtain ⟨a4, ha⟩ : ∃ a4, a3.put (some 10) (.bool (n == IntKind.i64.wrap n)) = a4 := ⟨_, rfl⟩
  obtain ⟨hn, he⟩ := ends_put (v' := W) 10 a4 ha hT hn he rfl rfl rfl hk (by
      intro ρ hρ
      change Sem.run Tq.prog _ _ = _
      rw [← hρ] at g1 g2; clear hρ
      unfold execOp; simp [Tq.o, go_sem, g1, g2, binOp, Op.intCmp])
  have q1 : a4.eval (.tmp 1) = .pointer (some ⟨N, 0, none⟩) := by rw [← ha]; exact (put_other (by decide)).trans g3
  have q2 : a4.eval (.tmp 10) = .bool (n == IntKind.i64.wrap n) := by rw [← ha]; exact put_same (by omega)
  have q3 : a4.tmps.size = s := by rw [← ha]; exact put_size.trans g4
  obtain ⟨hn, he⟩ := ends_go hT hn he rfl (fun k => stepG_region_end)
  obtain ⟨hn, he⟩ := ends_go hT hn he rfl (fun k => stepG_cond q2)
  have hr : n = IntKind.i64.wrap n := by
    refine Classical.byContradiction fun hne => ?_
    have hf : (n == IntKind.i64.wrap n) = false := by simpa using hne
    rw [hf] at hn he
    exact ends_bad hT hn he rfl (fun k => ⟨_, _, _, by simp [G, stepG, stepG.exec, Frame.at]; first | exact rfl | exact ⟨rfl, rfl⟩ | exact ⟨rfl, rfl, rfl⟩⟩)
  have hf : (n == IntKind.i64.wrap n) = true := by simpa using hr
  rw [hf] at hn he
  obtain ⟨hn, he⟩ := ends_go hT hn he rfl (fun k => stepG_skip)
  exact ⟨n, a4, rfl, hr, q3, q1, hn, he⟩

set_option maxRecDepth 100000 in
theorem Spc.few_ok {b : Frame} {a : Act} {k : List Item} {l : List Frame} {W : World} {R : Value → World → Prop} (hk : b.kind ≠ .early) {s : Nat} (hs14 : 14 ≤ s) (hz : a.tmps.size = s)
    (hn : NiceSt (T := Tq.T) (F1 := Tq.fs) ⟨b.at a (.code Tq.few :: k), l, W⟩) (he : Go.Veiled.Ends Tq.T Tq.fs R ⟨b.at a (.code Tq.few :: k), l, W⟩) : s = 14 := by
  have hT := Tq.twin_self
  unfold Tq.few at hn he
  unfold Tq.reg at hn he
  obtain ⟨hn, he⟩ := ends_go hT hn he rfl (fun k => stepG_region)
  simp only [List.size_toArray, List.length_cons, List.length_nil, Nat.reduceAdd, Nat.zero_add, List.range, List.range.loop] at hn he
  obtain ⟨a3, ha⟩ : ∃ a3, a.put (some 14) (.agg #[]) = a3 := ⟨_, rfl⟩
  obtain ⟨hn, he⟩ := ends_put (v' := W) 14 a3 ha hT hn he rfl rfl rfl hk (by
      intro ρ hρ
      change Sem.run Tq.prog _ _ = _
      subst hρ
      unfold execOp; simp [Tq.o, go_sem, Tq.hole, Act.eval])
  refine Classical.byContradiction fun hne => ?_
  have g4 : a3.eval (.tmp 14) = .agg #[] := by rw [← ha]; exact put_same (by omega)
  exact ends_no (v' := W) hT hn he rfl rfl (x := .stuck "build: no such field, or a part of the wrong size") (.inl ⟨_, rfl⟩) (by
      intro ρ hρ
      change Sem.run Tq.prog _ _ = _
      rw [← hρ] at g4; clear hρ
      unfold execOp; simp [Tq.o, go_sem, g4])

set_option maxRecDepth 100000 in
set_option maxHeartbeats 4000000 in
theorem Spc.shape {args : Array Value} {c : Frame} {l : List Frame} {v : World} {R : Value → World → Prop} (hn : NiceSt (T := Tq.T) (F1 := Tq.fs) ⟨Frame.enter (Program.mk Tq.T Tq.fs) 14 args .normal, c :: l, v⟩) (he : Go.Veiled.Ends Tq.T Tq.fs R ⟨Frame.enter (Program.mk Tq.T Tq.fs) 14 args .normal, c :: l, v⟩) :
    ∃ (parts : Array Value) (n a : Int) (u1 u2 u3 u4 u5 u6 u7 u8 u9 u10 u11 u12 u13 : Value), args ++ Array.replicate (14 - args.size) undef = #[.agg parts, u1, u2, u3, u4, u5, u6, u7, u8, u9, u10, u11, u12, u13] ∧ parts[0]? = some (.int .i64 n) ∧ parts[1]? = some (.int .i64 a) ∧ (-9223372036854775808 ≤ n ∧ n ≤ 9223372036854775807) ∧ (-9223372036854775808 ≤ a ∧ a ≤ 9223372036854775807) := by
  have hT := Tq.twin_self
  obtain ⟨A, hA⟩ : ∃ A, args ++ Array.replicate (14 - args.size) undef = A := ⟨_, rfl⟩
  have hent : Frame.enter (Program.mk Tq.T Tq.fs) 14 args .normal = (base 14).at ⟨A, []⟩ [.code Tq.body14] := by
    have h1 : (Program.mk Tq.T Tq.fs).funcs[14]? = some Tq.f14 := Tq.func14
    have h2 : Tq.f14.ntmps = 14 := Tq.ntmps14
    rw [← hA]
    simp [Frame.enter, h1, h2, Frame.at, base]
  rw [hent] at hn he
  have hsz : 14 ≤ A.size := by rw [← hA]; simp; omega
  simp only [Tq.body14, Tq.bodyS, Tq.sums, Tq.reg, Tq.o, Tq.st, Tq.cl, Tq.i0, Tq.i1, Tq.none0] at hn he
  obtain ⟨hn, he⟩ := ends_go hT hn he rfl (fun k => stepG_seq)
  obtain ⟨hn, he⟩ := ends_go hT hn he rfl (fun k => stepG_region)
  simp only [List.size_toArray, List.length_cons, List.length_nil, Nat.reduceAdd, Nat.zero_add, List.range, List.range.loop] at hn he
  obtain ⟨x, hx⟩ : ∃ x, (Act.mk A []).eval (.tmp 0) = x := ⟨_, rfl⟩
  obtain ⟨a0, ha0⟩ : ∃ a0, Act.mk A [] = a0 := ⟨_, rfl⟩
  have hz0 : a0.tmps.size = A.size := by rw [← ha0]
  rw [ha0] at hn he hx
  obtain ⟨a1, ha⟩ : ∃ a1, a0.put (some 1) (.pointer (some ⟨v.heap.size, 0, none⟩)) = a1 := ⟨_, rfl⟩
  obtain ⟨hn, he⟩ := ends_put (v' := v.alloc (.cells x.cells 26)) 1 a1 ha hT hn he rfl rfl rfl (by decide) (by
      intro ρ hρ
      change Sem.run Tq.prog _ _ = _
      rw [← hρ] at hx; clear hρ
      unfold execOp; simp [go_sem, hx])
  have e1 : a1.eval (.tmp 1) = .pointer (some ⟨v.heap.size, 0, none⟩) := by rw [← ha]; exact put_same (by omega)
  have e3 : a1.tmps.size = A.size := by rw [← ha]; exact put_size.trans hz0
  obtain ⟨a2, ha⟩ : ∃ a2, a1.put (some 2) (.slice none 0 0) = a2 := ⟨_, rfl⟩
  obtain ⟨hn, he⟩ := ends_put (v' := v.alloc (.cells x.cells 26)) 2 a2 ha hT hn he rfl rfl rfl (by decide) (by
      intro ρ hρ
      change Sem.run Tq.prog _ _ = _
      subst hρ
      unfold execOp; simp [go_sem, Act.eval])
  have f1 : a2.eval (.tmp 1) = .pointer (some ⟨v.heap.size, 0, none⟩) := by rw [← ha]; exact (put_other (by decide)).trans e1
  have f3 : a2.tmps.size = A.size := by rw [← ha]; exact put_size.trans e3
  obtain ⟨hn, he⟩ := ends_go hT hn he rfl (fun k => stepG_region_end)
  obtain ⟨hn, he⟩ := ends_go hT hn he rfl (fun k => stepG_seq)
  have hb : (v.alloc (.cells x.cells 26)).heap[v.heap.size]? = some (.cells x.cells 26) := ((PR.refl v).alloc (.cells x.cells 26)).blk 0 _ rfl
  generalize v.alloc (.cells x.cells 26) = W at hn he hb
  generalize v.heap.size = N at hn he hb f1
  obtain ⟨n, a1', h0, hr0, hz, h1, hn, he⟩ := Spc.probe_ok (.inl rfl) (by decide) hb hsz f3 f1 hn he
  obtain ⟨hn, he⟩ := ends_go hT hn he rfl (fun k => stepG_seq)
  obtain ⟨a, a2', h2, hr2, hz, h1, hn, he⟩ := Spc.probe_ok (.inr rfl) (by decide) hb hsz hz h1 hn he
  obtain ⟨hn, he⟩ := ends_go hT hn he rfl (fun k => stepG_seq)
  have h14 := Spc.few_ok (by decide) hsz hz hn he
  obtain ⟨parts, n', a', hxp, q0, q1, q2, q3⟩ := agg_parts h0 h2 hr0 hr2
  obtain ⟨v0, u1, u2, u3, u4, u5, u6, u7, u8, u9, u10, u11, u12, u13, hlit⟩ := Wk.array14 A h14
  have hv0 : v0 = .agg parts := by
    rw [← hxp, ← hx, ← ha0, hlit]
    rfl
  exact ⟨parts, n', a', u1, u2, u3, u4, u5, u6, u7, u8, u9, u10, u11, u12, u13, by rw [hA, hlit, hv0], q0, q1, q2, q3⟩
end Go.Proofs.Ytechkghnmgimbaa
