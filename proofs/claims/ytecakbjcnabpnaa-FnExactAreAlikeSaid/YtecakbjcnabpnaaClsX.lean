/-
  waysFrom, hasClass, SymmetriesOf and ClassSize of the program.
-/
import Derived.Test.YtecakbjcnabpnaaClsW
import Derived.Deep.RegionHeld3
import Derived.Deep.DrawnRows
namespace Go.Proofs.Ytecakbjcnabpnaa
open Go.RowKit Plain
set_option linter.unusedVariables false
attribute [local go_sem ↓] Go.wp_at_zero Go.wp_at_succ

theorem mapIs_made (w : World) : MapIs (w.alloc (.map #[] 0)) w.heap.size 0 [] := ⟨_, World.ownsMap_made w _ _ _, counts_nil⟩

theorem Map.ways (n a : Nat) (hn : n ≤ 4) (ha : a ≤ fullN n) (w : World) :
    Calls Try.prog 92 #[.agg #[.int .i64 n, .int .i64 a]] w fun e w' => (∃ b, e = .returned (.map (some b)) ∧ MapIs w' b (waysL n a).length (waysL n a)) ∧ Below w.heap.size w w' := by
  have hmm := @run_makeMap Try.prog
  have HN := Lib.hid hn
  have HA := Lib.hid ha
  have HM := Lib.hid (mapIs_made (w.alloc (.cells #[.int .i64 n, .int .i64 a] 25)))
  clear hn ha
  go_enter Try.func92, Try.ntmps92
  go_wp2_with fail
  refine (Map.count n a _ 0 [] HN.out HA.out _ (by simpa using HM.out)).mono ?_
  rintro e w1 ⟨rfl, hm, hg⟩
  go_wp2
  go_ret
  exact ⟨⟨_, rfl, hm⟩, (((Below.refl _ _).alloc (Nat.le_refl _) _).alloc (by simp) _).grown hg (by simp; omega) (fun j hj => by cases hj; simp)⟩

/-- Is there a class? -/
def Plain.clsB (n a : Int) : Bool := isT n a && decide (n ≤ 4)
theorem clsB_yes {n a : Int} (h : clsB n a = true) : ∃ m c : Nat, n = m ∧ a = c ∧ m ≤ 4 ∧ c ≤ fullN m ∧ isT n a = true := by
  unfold clsB at h
  simp only [Bool.and_eq_true, decide_eq_true_eq] at h
  obtain ⟨m, c, rfl, rfl, hm, hc⟩ := isT_nat h.1
  exact ⟨m, c, rfl, rfl, by omega, hc, h.1⟩
theorem clsB_no {n a : Int} (h : clsB n a = false) : ¬ (isT n a = true ∧ n ≤ 4) := by
  rintro ⟨h1, h2⟩
  unfold clsB at h
  rw [h1] at h
  simp at h
  omega

theorem Cls.has (n a : Int) (hb : -9223372036854775808 ≤ a ∧ a ≤ 9223372036854775807) (w : World) :
    Calls Try.prog 90 #[.agg #[.int .i64 n, .int .i64 a]] w fun e w' => e = .returned (.bool (clsB n a)) ∧ Below w.heap.size w w' := by
  have HB := Lib.hid hb
  have HC : Hid (clsB n a = (isT n a && decide (n ≤ 4))) := Lib.hid rfl
  clear hb
  go_enter Try.func90, Try.ntmps90
  go_wp2_with fail
  refine (Tab.impl _ _ HB.out _).mono ?_
  rintro e w1 ⟨rfl, hb1⟩
  have k0 : w1.cell? ⟨w.heap.size, 0, none⟩ = some (.int .i64 n) := keepB hb1 (keepN rfl rfl)
  cases ht : isT n a with
  | false =>
    rw [ht] at HC
    clear ht
    go_wp2
    go_ret
    exact ⟨by rw [HC.out]; rfl, bB hb1 (by simp) ((Below.refl _ _).alloc (Nat.le_refl _) _)⟩
  | true =>
    rw [ht] at HC
    clear ht
    go_wp2
    go_ret
    exact ⟨ret_bool (by rw [HC.out]; rfl), bB hb1 (by simp) ((Below.refl _ _).alloc (Nat.le_refl _) _)⟩

theorem Cls.sym_no (n a : Int) (hb : -9223372036854775808 ≤ a ∧ a ≤ 9223372036854775807) (h : clsB n a = false) (w : World) :
    Calls Try.prog 53 #[.agg #[.int .i64 n, .int .i64 a]] w fun e w' => e = .returned (.int .i64 (-1)) ∧ Below w.heap.size w w' := by
  have HB := Lib.hid hb
  have H := Lib.hid h
  clear hb h
  go_enter Try.func53, Try.ntmps53
  go_wp2_with fail
  refine (Cls.has _ _ HB.out _).mono ?_
  rintro e w1 ⟨rfl, hb1⟩
  rw [H.out]
  go_wp2
  go_ret
  exact ⟨rfl, bB hb1 (by simp) ((Below.refl _ _).alloc (Nat.le_refl _) _)⟩

theorem Cls.size_no (n a : Int) (hb : -9223372036854775808 ≤ a ∧ a ≤ 9223372036854775807) (h : clsB n a = false) (w : World) :
    Calls Try.prog 44 #[.agg #[.int .i64 n, .int .i64 a]] w fun e w' => e = .returned (.int .i64 (-1)) ∧ Below w.heap.size w w' := by
  have HB := Lib.hid hb
  have H := Lib.hid h
  clear hb h
  go_enter Try.func44, Try.ntmps44
  go_wp2_with fail
  refine (Cls.has _ _ HB.out _).mono ?_
  rintro e w1 ⟨rfl, hb1⟩
  rw [H.out]
  go_wp2
  go_ret
  exact ⟨rfl, bB hb1 (by simp) ((Below.refl _ _).alloc (Nat.le_refl _) _)⟩

/-- len(ways): how many different words there are. -/
theorem wp_len {ops : Array Oper} {rest : List Oper} {o : Oper} {a : Act} {Q : Exit → Act → World → Prop} (hg : o.guard = none) (m : Operand) (hop : o.op = Op.call { callee := Callee.builtin Builtin.len, args := #[m], argTypes := #[85] })
    (w : World) (b n : Nat) (l : List Nat) (hm : a.eval m = .map (some b)) (h : MapIs w b n l)
    (hK : ∀ ks : List Nat, ks.Nodup → (∀ x, x ∈ ks ↔ x ∈ l) → wpList Try.prog ops Q rest (a.put o.dst (.int .i64 (ks.length : Int))) w) : wpList Try.prog ops Q (o :: rest) a w := by
  obtain ⟨D, h1, h2⟩ := h
  obtain ⟨ks, hd, hk, hs, _⟩ := h2.keys
  refine wpList_len_own w hg m 85 hop 62 3 Try.underlying85 _ b n D hm h1 ?_
  rw [hs]
  exact hK ks hd hk

theorem Cls.size_yes (n a : Nat) (hn : n ≤ 4) (ha : a ≤ fullN n) (ht : isT n a = true) (w : World) :
    Calls Try.prog 44 #[.agg #[.int .i64 n, .int .i64 a]] w fun e w' => e = .returned (.int .i64 (sizT n a)) ∧ Below w.heap.size w w' := by
  have hf5 := fullN_le n (by omega)
  have HB : Hid (-9223372036854775808 ≤ (a : Int) ∧ (a : Int) ≤ 9223372036854775807) := Lib.hid (by omega)
  have H : Hid (clsB n a = true) := Lib.hid (by unfold clsB; rw [ht]; simp; omega)
  have HN := Lib.hid hn
  have HA := Lib.hid ha
  have HT := Lib.hid (sizT_yes ht hn)
  clear hn ha ht hf5
  go_enter Try.func44, Try.ntmps44
  go_wp2_with fail
  refine (Cls.has _ _ HB.out _).mono ?_
  rintro e w1 ⟨rfl, hb1⟩
  rw [H.out]
  have k0 : w1.cell? ⟨w.heap.size, 0, none⟩ = some (.int .i64 n) := keepB hb1 (keepN rfl rfl)
  have k1 : w1.cell? ⟨w.heap.size, 1, none⟩ = some (.int .i64 a) := keepB hb1 (keepN rfl rfl)
  have hsz : w.heap.size < w1.heap.size := by have := hb1.size; simp at this; omega
  go_wp2_with fail
  refine (Map.ways n a HN.out HA.out _).mono ?_
  rintro e w2 ⟨⟨b, rfl, hm⟩, hb2⟩
  have HM := Lib.hid hm
  have HB2 := Lib.hid hb2
  clear hm hb2
  go_wp2_with (first | (refine wp_len rfl _ rfl _ b _ _ rfl HM.out ?_; intro ks hd hk; have HK := Lib.hid (ways_size HN.out (fullN_lt a HA.out) ks hd hk); clear hd hk) | fail)
  go_ret
  refine ⟨?_, bstep (bB hb1 (by simp) ((Below.refl _ _).alloc (Nat.le_refl _) _)) HB2.out⟩
  rw [HT.out, HK.out, Nat.mul_div_cancel _ (count_pos HN.out (fullN_lt a HA.out))]
  rfl

/-- ways[x], as an equation. -/
theorem look_run {w : World} {b n : Nat} {l : List Nat} (h : MapIs w b n l) (c : Nat) (hc : (c : Int) ≤ 4294967295) :
    (Instr.lookup 85 (.map (some b)) (.int .u64 (c : Int)) false).run Try.prog w = .ok (.int .i64 (l.count c : Int)) w := by
  obtain ⟨D, h1, h2⟩ := h
  obtain ⟨c', hrun, hat, _⟩ := h1.lookup_int lawW Try.underlying85 Try.underlying3 (zeroI w) (key_word hc)
  rw [h2.at' c] at hat
  cases hat
  exact hrun

set_option maxRecDepth 100000 in
theorem Cls.sym_yes (n a : Nat) (hn : n ≤ 4) (ha : a ≤ fullN n) (ht : isT n a = true) (w : World) :
    Calls Try.prog 53 #[.agg #[.int .i64 n, .int .i64 a]] w fun e w' => e = .returned (.int .i64 (symT n a)) ∧ Below w.heap.size w w' := by
  have hf5 := fullN_le n (by omega)
  have haz : (a : Int) ≤ 4294967295 := by omega
  have HB : Hid (-9223372036854775808 ≤ (a : Int) ∧ (a : Int) ≤ 9223372036854775807) := Lib.hid (by omega)
  have H : Hid (clsB n a = true) := Lib.hid (by unfold clsB; rw [ht]; simp; omega)
  have HN := Lib.hid hn
  have HA := Lib.hid ha
  have HT := Lib.hid (symT_yes ht hn)
  have HW : Hid (IntKind.u64.wrap (a : Int) = (a : Int)) := Lib.hid (by rw [IntKind.wrap_u64]; omega)
  clear hn ha ht hf5
  go_enter Try.func53, Try.ntmps53
  go_wp2_with fail
  refine (Cls.has _ _ HB.out _).mono ?_
  rintro e w1 ⟨rfl, hb1⟩
  rw [H.out]
  have k0 : w1.cell? ⟨w.heap.size, 0, none⟩ = some (.int .i64 n) := keepB hb1 (keepN rfl rfl)
  have k1 : w1.cell? ⟨w.heap.size, 1, none⟩ = some (.int .i64 a) := keepB hb1 (keepN rfl rfl)
  have hsz : w.heap.size < w1.heap.size := by have := hb1.size; simp at this; omega
  have HB1 := Lib.hid (bB hb1 (by simp) ((Below.refl w.heap.size w).alloc (Nat.le_refl _) (.cells #[.int .i64 (n : Int), .int .i64 (a : Int)] 25)))
  clear hb1
  go_wp2_with fail
  go_region_held3 (fun w' => w'.cell? ⟨w.heap.size, 0, none⟩ = some (.int .i64 n) ∧ w'.cell? ⟨w.heap.size, 1, none⟩ = some (.int .i64 a)) ((first | (go_split_ands; (try dsimp only); (refine ⟨?_, ?_⟩ <;> (repeat (first | with_reducible assumption | (with_reducible refine keepD ?_) | (with_reducible refine keepB hb2 ?_)))); done) | go_keep))
    (first
      | (go_at_call 92; refine (Map.ways n a HN.out HA.out _).mono ?_; rintro e w2 ⟨⟨b, rfl, hm⟩, hb2⟩; have hlk : (Instr.lookup 85 (.map (some b)) (.int .u64 (IntKind.u64.wrap (a : Int))) false).run Try.prog w2 = .ok (.int .i64 ((waysL n a).count a : Int)) w2 := (by rw [HW.out]; exact look_run hm a haz); clear hm))
  all_goals
    go_wp2
    go_ret
    exact ⟨by rw [HT.out]; rfl, bB hb2 (by simp; omega) (bD HB1.out)⟩

theorem keepF {X w' : World} {b o : Nat} (hb : Below X.heap.size X w') (hlt : b < X.heap.size) (h : X.frozen? ⟨b, o, none⟩ = false) : w'.frozen? ⟨b, o, none⟩ = false := ((bcell hb).2 b o hlt).trans h

theorem Cls.can_no (n a : Int) (hb : -9223372036854775808 ≤ a ∧ a ≤ 9223372036854775807) (h : clsB n a = false) (w : World) :
    Calls Try.prog 39 #[.agg #[.int .i64 n, .int .i64 a]] w fun e w' => e = .returned (.tuple #[.agg #[.int .i64 0, .int .i64 0], .bool false]) ∧ Below w.heap.size w w' := by
  have HB := Lib.hid hb
  have H := Lib.hid h
  clear hb h
  go_enter Try.func39, Try.ntmps39
  go_wp2_with fail
  refine (Cls.has _ _ HB.out _).mono ?_
  rintro e w1 ⟨rfl, hb1⟩
  obtain ⟨hc1, hf1⟩ := bcell hb1
  have hz : w.heap.size + 1 < w1.heap.size := by have := hb1.size; simp at this; omega
  rw [H.out]
  go_wp2
  exact bodyPost_ret (v := .tuple #[.agg #[.int .i64 0, .int .i64 0], .bool false]) (by simp [results, Try.results39, go_sem, hc1]) rfl ⟨rfl, by exact (((((Below.refl _ _).alloc (Nat.le_refl _) _).alloc (by simp) _).trans (hb1.mono (by simp; omega))).setCell (by simp) _).setCell (by simp) _⟩

set_option maxRecDepth 100000 in
theorem Cls.can_yes (n a : Nat) (hn : n ≤ 4) (ha : a ≤ fullN n) (ht : isT n a = true) (w : World) :
    Calls Try.prog 39 #[.agg #[.int .i64 n, .int .i64 a]] w fun e w' => e = .returned (.tuple #[.agg #[.int .i64 n, .int .i64 (leastW n a : Int)], .bool true]) ∧ Below w.heap.size w w' := by
  have hf5 := fullN_le n (by omega)
  have hlw := least_full n a ha
  have haz : (a : Int) ≤ 4294967295 := by omega
  have hlz : (leastW n a : Int) ≤ 4294967295 := by omega
  have HB : Hid (-9223372036854775808 ≤ (a : Int) ∧ (a : Int) ≤ 9223372036854775807) := Lib.hid (by omega)
  have H : Hid (clsB n a = true) := Lib.hid (by unfold clsB; rw [ht]; simp; omega)
  have HN := Lib.hid hn
  have HA := Lib.hid ha
  clear hn ha ht hf5 hlw
  go_enter Try.func39, Try.ntmps39
  go_wp2_with fail
  refine (Cls.has _ _ HB.out _).mono ?_
  rintro e w1 ⟨rfl, hb1⟩
  rw [H.out]
  have k0 : w1.cell? ⟨w.heap.size, 0, none⟩ = some (.int .i64 n) := keepB hb1 (keepA (keepN rfl rfl))
  have k1 : w1.cell? ⟨w.heap.size, 1, none⟩ = some (.int .i64 a) := keepB hb1 (keepA (keepN rfl rfl))
  have z0 : w1.cell? ⟨w.heap.size + 1, 0, none⟩ = some (.int .i64 0) := keepB hb1 (keepN (by simp) rfl)
  have z1 : w1.cell? ⟨w.heap.size + 1, 1, none⟩ = some (.int .i64 0) := keepB hb1 (keepN (by simp) rfl)
  have hsz : w.heap.size + 1 < w1.heap.size := by have := hb1.size; simp at this; omega
  have HB1 := Lib.hid (bB hb1 (by simp; omega) (((Below.refl w.heap.size w).alloc (Nat.le_refl _) (.cells #[.int .i64 (n : Int), .int .i64 (a : Int)] 25)).alloc (by simp) (.cells #[.int .i64 0, .int .i64 0] 25)))
  have g0 : w1.frozen? ⟨w.heap.size + 1, 0, none⟩ = false := keepF hb1 (by simp) (frozen_of_row _ _ 0 _ _ (heap_alloc2_new w _ _))
  have g1 : w1.frozen? ⟨w.heap.size + 1, 1, none⟩ = false := keepF hb1 (by simp) (frozen_of_row _ _ 1 _ _ (heap_alloc2_new w _ _))
  have HZ0 := Lib.hid z0
  have HZ1 := Lib.hid z1
  have HG0 := Lib.hid g0
  have HG1 := Lib.hid g1
  clear hb1 g0 g1 z0 z1
  go_wp2_with fail
  go_region_held3 (fun w' => w'.cell? ⟨w.heap.size, 0, none⟩ = some (.int .i64 n) ∧ w'.cell? ⟨w.heap.size, 1, none⟩ = some (.int .i64 a))
    ((first | (go_split_ands; (try dsimp only); (refine ⟨?_, ?_⟩ <;> (repeat (first | with_reducible assumption | (with_reducible refine keepS (by simp) ?_) | (with_reducible refine keepD ?_) | (with_reducible refine keepB hb4 ?_) | (with_reducible refine keepB hb3 ?_) | (with_reducible refine keepB hb2 ?_)))); done) | go_keep))
    (first
      | (go_at_call 92; refine (Map.ways n a HN.out HA.out _).mono ?_; rintro e w2 ⟨⟨b, rfl, hm⟩, hb2⟩; have HM := Lib.hid hm; clear hm; have hs2 : w.heap.size + 1 < w2.heap.size := Nat.lt_of_lt_of_le hsz hb2.size)
      | (go_at_call 91; refine (Map.least n (by have := HN.out; omega) b _ _ (fun x hx => ways_full n a x hx) _ HM.out).mono ?_; rintro e w3 ⟨⟨k, rfl, hk1, hk2, hk3⟩, hb3⟩; obtain rfl := least_is HN.out HA.out hk2 hk3; clear hk1 hk2 hk3; have hs3 : w.heap.size + 1 < w3.heap.size := Nat.lt_of_lt_of_le hs2 hb3.size)
      | (go_at_call 93; refine (Tab.table n (leastW n a) (by omega) _).mono ?_; rintro e w4 ⟨rfl, hb4⟩; have y0 := keepB hb4 (keepB hb3 (keepB hb2 HZ0.out)); have y1 := keepB hb4 (keepB hb3 (keepB hb2 HZ1.out)); have g0 := keepF hb4 hs3 (keepF hb3 hs2 (keepF hb2 hsz HG0.out)); have g1 := keepF hb4 hs3 (keepF hb3 hs2 (keepF hb2 hsz HG1.out))))
  all_goals
    go_wp2
    obtain ⟨r0, r1⟩ := keepT (u := .int .i64 (n : Int)) (v := .int .i64 (leastW n a : Int)) y0 y1
    exact bodyPost_ret (v := .tuple #[.agg #[.int .i64 n, .int .i64 (leastW n a : Int)], .bool true]) (by simp [results, Try.results39, go_sem, r0, r1]) rfl ⟨rfl, bS (by simp) (bS (by simp) (bB hb4 (by omega) (bB hb3 (by omega) (bB hb2 (by simp; omega) (bD HB1.out)))))⟩

/-! All tables and what is none -/
theorem Cls.symI (n a : Int) (hb : -9223372036854775808 ≤ a ∧ a ≤ 9223372036854775807) (w : World) :
    Calls Try.prog 53 #[.agg #[.int .i64 n, .int .i64 a]] w fun e w' => e = .returned (.int .i64 (symT n a)) ∧ Below w.heap.size w w' := by
  cases h : clsB n a with
  | true =>
    obtain ⟨m, c, rfl, rfl, hm, hc, ht⟩ := clsB_yes h
    exact Cls.sym_yes m c hm hc ht w
  | false => rw [symT_no (clsB_no h)]; exact Cls.sym_no n a hb h w
theorem Cls.sizI (n a : Int) (hb : -9223372036854775808 ≤ a ∧ a ≤ 9223372036854775807) (w : World) :
    Calls Try.prog 44 #[.agg #[.int .i64 n, .int .i64 a]] w fun e w' => e = .returned (.int .i64 (sizT n a)) ∧ Below w.heap.size w w' := by
  cases h : clsB n a with
  | true =>
    obtain ⟨m, c, rfl, rfl, hm, hc, ht⟩ := clsB_yes h
    exact Cls.size_yes m c hm hc ht w
  | false => rw [sizT_no (clsB_no h)]; exact Cls.size_no n a hb h w
theorem Cls.canI (n a : Int) (hb : -9223372036854775808 ≤ a ∧ a ≤ 9223372036854775807) (w : World) :
    Calls Try.prog 39 #[.agg #[.int .i64 n, .int .i64 a]] w fun e w' => e = .returned (.tuple #[.agg #[.int .i64 (canT n a).1, .int .i64 (canT n a).2.1], .bool (canT n a).2.2]) ∧ Below w.heap.size w w' := by
  cases h : clsB n a with
  | true =>
    obtain ⟨m, c, rfl, rfl, hm, hc, ht⟩ := clsB_yes h
    rw [canT_yes ht hm]
    exact Cls.can_yes m c hm hc ht w
  | false => rw [canT_no (clsB_no h)]; exact Cls.can_no n a hb h w
end Go.Proofs.Ytecakbjcnabpnaa
