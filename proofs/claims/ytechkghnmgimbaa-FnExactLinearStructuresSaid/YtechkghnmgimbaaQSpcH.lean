/-
  Chapter 14, the model: LinearStructures.
-/
import Derived.Test.YtechkghnmgimbaaQSpcG
import Derived.Test.YtechkghnmgimbaaQSpcE
namespace Go.Proofs.Ytechkghnmgimbaa.Q
set_option linter.unusedSimpArgs false
theorem Plain.qSpcH : True := trivial
open Go.RowKit Go.Proofs.Ytechkghnmgimbaa.Plain Go.Proofs.Ytechkghnmgimbaa.Q.Plain
set_option linter.unusedVariables false
set_option linter.unusedSimpArgs false
attribute [local go_sem ↓] Go.wp_at_zero Go.wp_at_succ
attribute [local go_sem] undef

theorem autL_getD {a M k j : Nat} (h : j < k) : (autL a M k).getD j 0 = autN a M j := by
  simp [Plain.autL, List.getD_eq_getElem?_getD, h]; rfl
/-- What a row of sums gives to read. -/
theorem Aut.open_yes {a M : Nat} {w w' : World} {e : Ending} (h : Spc.Out (autL a M M) w e w') (h0 : 0 < M) :
    ∃ g cap, e = .returned (.slice (some ⟨g, 0, none⟩) M cap) ∧ w.heap.size ≤ g ∧ g < w'.heap.size ∧ (∀ j, j < M → w'.cell? ⟨g, j, none⟩ = some (.int .i64 (autN a M j))) ∧ Below w.heap.size w w' := by
  obtain ⟨v, rfl, hr, hb⟩ := h
  have hl := autL_len a M M
  rcases hr.shape with ⟨rfl, hn⟩ | ⟨g, cap, rfl, hB, hg⟩
  · rw [hn] at hl
    exact absurd hl (by simp; omega)
  · refine ⟨g, cap, by rw [hl], hB, hg, fun j hj => ?_, hb⟩
    rw [hr.cell j (by omega), autL_getD hj]

/-! A row that began as an empty one of no capacity. -/
def OutI (w : World) (b0 B : Nat) (v : Value) (l : List Int) : Prop := (v = .slice (some ⟨b0, 0, none⟩) 0 0 ∧ l = []) ∨ IntRow w B v l
theorem wp_int0 {ops : Array Oper} {rest : List Oper} {o : Oper} {a : Act} {Q : Exit → Act → World → Prop} (hgd : o.guard = none) (s x : Operand)
    (ho : o.op = .call { callee := .builtin .append, args := #[s, x], argTypes := #[24, 24] })
    (b0 B : Nat) (w wr : World) (c : Int) (hb : Below B w wr) (hB : B ≤ wr.heap.size)
    (hs : a.eval s = .slice (some ⟨b0, 0, none⟩) 0 0) (hx : a.eval x = .slice (some ⟨wr.heap.size, 0, none⟩) 1 1)
    (h : ∀ v' w1, IntRow w1 B v' [c] → Below B w w1 → wpList Tq.prog ops Q rest (a.put o.dst v') w1) :
    wpList Tq.prog ops Q (o :: rest) a (wr.alloc (.cells #[.int .i64 c] 3)) := by
  obtain ⟨i0, hi, hz0, hz1, hz2⟩ := info_parts Tq.infoInt
  have hnews : ∀ j u, [Value.int .i64 c][j]? = some u → (wr.alloc (.cells #[.int .i64 c] 3)).cell? ((⟨wr.heap.size, 0, none⟩ : Addr).add j) = some u := by
    intro j u hj
    match j, hj with
    | 0, hj => simp at hj; subst hj; exact World.cell?_alloc_mark wr _ _ _ 0
    | j + 1, hj => simp at hj
  have hfit : Builtin.nextslicecap (0 + 1) 0 * i0.bytes ≤ 281474976710656 := by rw [nextslicecap_zero (by decide), hz2]; decide
  have hr := run_append_grow (P := Tq.prog) (wr.alloc (.cells #[.int .i64 c] 3)) 24 o.type 3 i0 (.int .i64 0) Tq.underlying24 hi hz0
    ⟨b0, 0, none⟩ 0 0 [] (by simp) (fun j u h => by simp at h) ⟨wr.heap.size, 0, none⟩ 1 1 [.int .i64 c] (by rw [hz1]; rfl) hnews (by decide) (by decide) hfit
  have hge := grownCap_ge (wr.alloc (.cells #[.int .i64 c] 3)) (0 + 1) 0 3
  have hcm := grownCap_le_maxLen (wr.alloc (.cells #[.int .i64 c] 3)) (0 + 1) 0 3 (by unfold maxLen; decide)
  generalize grownCap (wr.alloc (.cells #[.int .i64 c] 3)) (0 + 1) 0 3 = cp at hr hge hcm
  refine wpList_plain hgd fun K hK => ?_
  unfold Oper.wp execOp
  simp only [ho, resolve, invoke, builtin, Sem.run_bind, Sem.run_pure, Result.andThen_ok, List.map_toArray, List.map_cons, List.map_nil, hs, hx, hr]
  refine hK _ _ (h _ _ ⟨rfl, .inr ⟨_, cp, _, rfl, ?_, heap_alloc_new (World.drew _) _, hge, hcm, ?_, ?_⟩⟩ ?_)
  · simp; omega
  · have e : (Value.int .i64 0).cells.size = 1 := rfl
    simp only [Array.size_append, List.size_toArray, size_zeroCells, e, List.length_nil, List.length_cons]
    omega
  · simp [intsV]
  · exact bA (by simp; omega) (bD (bA hB hb))
theorem wp_intO {ops : Array Oper} {rest : List Oper} {o : Oper} {a : Act} {Q : Exit → Act → World → Prop} (hgd : o.guard = none) (s x : Operand)
    (ho : o.op = .call { callee := .builtin .append, args := #[s, x], argTypes := #[24, 24] })
    (b0 B : Nat) (w wr : World) (v : Value) (l : List Int) (c : Int) (ob : Obj) (hown : OutI wr b0 B v l) (hb : Below B w wr) (hB : B ≤ wr.heap.size) (hlen : l.length ≤ 1000000)
    (hs : a.eval s = v) (hx : a.eval x = .slice (some ⟨wr.heap.size, 0, none⟩) 1 1) (hob : ob = .cells #[.int .i64 c] 3)
    (h : ∀ v' w1, IntRow w1 B v' (l ++ [c]) → Below B w w1 → wpList Tq.prog ops Q rest (a.put o.dst v') w1) :
    wpList Tq.prog ops Q (o :: rest) a (wr.alloc ob) := by
  rcases hown with ⟨rfl, rfl⟩ | hown
  · subst hob
    exact wp_int0 hgd s x ho b0 B w wr c hb hB hs hx h
  · exact wp_int hgd s x ho B w wr v l c ob hown hb hB (by omega) hs hx hob fun v' w1 h1 h2 _ => h v' w1 h1 h2

/-- A list and a bool. -/
def Spc.Out2 (l : List Int) (b : Bool) (w : World) (e : Ending) (w' : World) : Prop := ∃ v, e = .returned (.tuple #[v, .bool b]) ∧ IntRow w' w.heap.size v l ∧ Below w.heap.size w w'

set_option maxRecDepth 100000 in
set_option maxHeartbeats 2000000 in
theorem Lin.model_no (n a : Int) (ht : isT n a = false) (w : World) :
    Calls Tq.prog 33 #[.agg #[.int .i64 n, .int .i64 a]] w (Spc.Out2 [] false w) := by
  have HS := Lib.hid (Aut.model_no n a ht)
  clear ht
  have hr := rowLit (w.alloc (.cells #[.int .i64 n, .int .i64 a] 26)) w.heap.size (w.heap.size + 1) [] (by simp) (by omega) (by simp)
  have HR : Hid (IntRow ((w.alloc (.cells #[.int .i64 n, .int .i64 a] 26)).alloc (.cells #[] 3)) w.heap.size (.slice (some ⟨w.heap.size + 1, 0, none⟩) 0 0) []) := Lib.hid (by simpa using hr.1)
  clear hr
  go_enter Tq.func33, Tq.ntmps33
  go_wp2_with fail
  refine (HS.out _).mono ?_
  intro e w1 hout
  obtain ⟨o, cap, rfl, hb⟩ := Spc.open_no hout
  clear hout
  have HB := Lib.hid hb
  clear hb
  go_wp2_with fail
  go_loopw [4, 6] (fun o i wr => o = .slice (some ⟨w.heap.size + 1, 0, none⟩) 0 0 ∧ i = .int .i64 0 ∧ wr = w1) (fun _ _ _ => 0)
  case atStart => exact ⟨rfl, rfl, rfl⟩
  case round =>
    obtain ⟨rfl, rfl, rfl⟩ := hrel
    go_wp2
    exact bodyPost_ret (v := .tuple #[.slice (some ⟨w.heap.size + 1, 0, none⟩) 0 0, .bool false]) (by simp [results, Tq.results33, go_sem]) rfl ⟨_, rfl, HR.out.below HB.out, (((Below.refl _ _).alloc (Nat.le_refl _) _).alloc (by simp) _).trans (HB.out.mono (by simp; omega))⟩

set_option maxRecDepth 100000 in
set_option maxHeartbeats 4000000 in
theorem Lin.model_yes (n a : Nat) (hn : n ≤ 5) (ht : isT n a = true) (ha : (a : Int) ≤ 4294967295) (w : World) :
    Calls Tq.prog 33 #[.agg #[.int .i64 n, .int .i64 a]] w (Spc.Out2 (linL a (2 ^ n) (2 ^ n)) true w) := by
  have HS := Lib.hid (Aut.model_yes n a hn ht ha)
  have h32 := two_pow_le n hn
  have hpos : 0 < 2 ^ n := Nat.two_pow_pos n
  clear ht
  generalize 2 ^ n = M at *
  have hr := rowLit (w.alloc (.cells #[.int .i64 n, .int .i64 a] 26)) w.heap.size (w.heap.size + 1) [] (by simp) (by omega) (by simp)
  have HR : Hid (IntRow ((w.alloc (.cells #[.int .i64 n, .int .i64 a] 26)).alloc (.cells #[] 3)) w.heap.size (.slice (some ⟨w.heap.size + 1, 0, none⟩) 0 0) []) := Lib.hid (by simpa using hr.1)
  clear hr
  go_enter Tq.func33, Tq.ntmps33
  go_wp2_with fail
  refine (HS.out _).mono ?_
  intro e w3 hout
  obtain ⟨g, cap, rfl, hg0, hg1, hcell, hb⟩ := Aut.open_yes hout hpos
  clear hout
  have hsz := hb.size
  simp only [World.size_alloc] at hsz
  have HRB := Lib.hid (HR.out.below hb)
  have HB : Hid (Below w.heap.size w w3) := Lib.hid ((((Below.refl _ _).alloc (Nat.le_refl _) _).alloc (by simp) _).trans (hb.mono (by simp; omega)))
  have HC := Lib.hid hcell
  have hMz : (M : Int) ≤ 32 := by omega
  have hMp : 0 < (M : Int) := by omega
  clear hb hcell HS
  go_wp2_with fail
  go_loopw [4, 6] (fun o i wr => ∃ (k : Nat) (v : Value), i = .int .i64 (k : Int) ∧ v = o ∧ k ≤ M ∧ OutI wr (w.heap.size + 1) w3.heap.size v (linL a M k) ∧ Below w3.heap.size w3 wr) (fun _ i _ => M - (intOf i).toNat)
  case atStart => exact ⟨0, _, rfl, rfl, by omega, .inl ⟨rfl, rfl⟩, Below.refl _ _⟩
  case round =>
    obtain ⟨k, v, rfl, rfl, hk, hrow, hbel⟩ := hrel
    have hsr := hbel.size
    have HROW := Lib.hid hrow
    have HBEL := Lib.hid hbel
    by_cases hlt : k < M
    · have hlz : (k : Int) < (M : Int) := by omega
      have e1 : wr.cell? ⟨g, k, none⟩ = some (.int .i64 (autN a M k)) := (hbel.cell (p := ⟨g, k, none⟩) hg1).trans (HC.out k hlt)
      have l1 := autN_lim a M k
      have hll := linL_len a M k
      have HON := Lib.hid (linL_on (a := a) (M := M) (k := k))
      have HOFF := Lib.hid (linL_off (a := a) (M := M) (k := k))
      generalize hG1 : linL a M (k + 1) = G1 at *
      generalize linL a M k = G0 at *
      generalize autN a M k = x at *
      clear hrow hbel
      by_cases hx1 : x = (M : Int)
      · have HE := Lib.hid (HON.out (by omega))
        subst hx1
        go_wp2_with (at_builtin; go_must (refine wp_intO rfl _ _ rfl (w.heap.size + 1) w3.heap.size _ _ _ _ (k : Int) _ HROW.out HBEL.out hsr (by omega) rfl rfl rfl ?_; intro v1 w4 k1 k2))
        exact ⟨⟨k + 1, _, by go_num, rfl, by omega, .inr (by rw [hG1, HE.out]; exact k1), k2⟩, by simp [intOf] <;> omega⟩
      · have hb1 : (x == (M : Int)) = false := by simpa using hx1
        by_cases hx2 : x = -(M : Int)
        · have HE := Lib.hid (HON.out (by omega))
          have hb2 : (x == -(M : Int)) = true := by simpa using hx2
          have hw2 : IntKind.i64.wrap (-(M : Int)) = -(M : Int) := by rw [IntKind.wrap_i64]; omega
          go_wp2_with (at_builtin; go_must (refine wp_intO rfl _ _ rfl (w.heap.size + 1) w3.heap.size _ _ _ _ (k : Int) _ HROW.out HBEL.out hsr (by omega) rfl rfl rfl ?_; intro v1 w4 k1 k2))
          exact ⟨⟨k + 1, _, by go_num, rfl, by omega, .inr (by rw [hG1, HE.out]; exact k1), k2⟩, by simp [intOf] <;> omega⟩
        · have HE := Lib.hid (HOFF.out (by omega))
          have hb2 : (x == -(M : Int)) = false := by simpa using hx2
          have hw2 : IntKind.i64.wrap (-(M : Int)) = -(M : Int) := by rw [IntKind.wrap_i64]; omega
          go_wp2
          exact ⟨⟨k + 1, _, by go_num, rfl, by omega, by rw [hG1, HE.out]; exact HROW.out, HBEL.out⟩, by simp [intOf] <;> omega⟩
    · obtain rfl : k = M := by omega
      have hlz : ¬ (k : Int) < (k : Int) := by omega
      have HF : Hid (IntRow wr w.heap.size v (linL a k k)) := Lib.hid (by
        rcases hrow with ⟨rfl, hnil⟩ | h
        · rw [hnil]; exact HRB.out.below hbel
        · exact h.base (by omega))
      generalize linL a k k = G0 at *
      clear hrow hbel
      go_wp2
      exact bodyPost_ret (v := .tuple #[v, .bool true]) (by simp [results, Tq.results33, go_sem]) rfl ⟨_, rfl, HF.out, HB.out.trans (HBEL.out.mono (by omega))⟩
end Go.Proofs.Ytechkghnmgimbaa.Q
