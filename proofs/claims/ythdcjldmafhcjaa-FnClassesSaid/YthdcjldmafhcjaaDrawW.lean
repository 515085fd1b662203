/-
  Chapter 4: the draw of AreAlike; plain facts of the law of classes.
-/
import Derived.Test.YthdcjldmafhcjaaDrawV
import Derived.Test.YthdcjldmafhcjaaClsC
import Derived.Test.YthdcjldmafhcjaaPlainK
namespace Go.Proofs.Ythdcjldmafhcjaa
open Go.RowKit Plain
set_option linter.unusedVariables false
attribute [local go_sem ↓] Go.wp_at_zero Go.wp_at_succ

set_option maxRecDepth 100000 in
set_option maxHeartbeats 4000000 in
theorem Draw.alike (av : Value) (len : Nat) (w : World) (hc : CodeIn w av len) :
    Calls Try.prog 26 #[av] w (Pair4 w) := by
  have HC := Lib.hid hc
  obtain ⟨ad, cap, rfl, _, _⟩ := hc
  go_enter Try.func26, Try.ntmps26
  go_wp2_with fail
  have BA := Lib.hid (((Below.refl w.heap.size w).alloc (Nat.le_refl _) (.cells #[.int .i64 0, .int .i64 0] 25)).alloc (by simp) (.cells #[.int .i64 0, .int .i64 0] 25))
  refine (Draw.pair4 _ len _ (HC.out.below BA.out)).mono ?_
  rintro e w1 ⟨n, a, m, c, rfl, hn, ha, hm, hc, hb1⟩
  have B1 := Lib.hid (BA.out.trans (hb1.mono (by simp <;> omega)))
  have x1 := (hb1.block w.heap.size (by simp <;> omega)).trans (heap_alloc2_old w _ _)
  have y1 := (hb1.block (w.heap.size + 1) (by simp <;> omega)).trans (heap_alloc2_new w _ _)
  obtain ⟨z0, z1, g0, g1⟩ := cells2 x1
  obtain ⟨y0, y1', h0, h1⟩ := cells2 y1
  have IN := Lib.hid (show In64 n ∧ In64 a ∧ In64 m ∧ In64 c from ⟨hn, ha, hm, hc⟩)
  have hs0 : w.heap.size + 1 < w1.heap.size := lt_of_block y1
  have hs0' : w.heap.size < w1.heap.size := lt_of_block x1
  have K1 := Lib.hid (fun (u v p q : Value) => pairRes (p := w.heap.size) (q := w.heap.size + 1) (by omega) u v p q z0 z1 y0 y1')
  have K2 := Lib.hid (fun (u v p q : Value) => pairRes (p := w.heap.size + 1) (q := w.heap.size) (by omega) u v p q y0 y1' z0 z1)
  clear hn ha hm hc hb1 x1 y1
  go_wp2_with fail
  go_region_with (fail)
  all_goals
    go_wp2
    first
    | (obtain ⟨k0, k1, k2, k3⟩ := K1.out (.int .i64 n) (.int .i64 a) (.int .i64 m) (.int .i64 c)
       have l0 := keepA (o := .cells #[.int .i64 m, .int .i64 c] 25) (keepA (o := .cells #[.int .i64 n, .int .i64 a] 25) k0)
       have l1 := keepA (o := .cells #[.int .i64 m, .int .i64 c] 25) (keepA (o := .cells #[.int .i64 n, .int .i64 a] 25) k1)
       have l2 := keepA (o := .cells #[.int .i64 m, .int .i64 c] 25) (keepA (o := .cells #[.int .i64 n, .int .i64 a] 25) k2)
       have l3 := keepA (o := .cells #[.int .i64 m, .int .i64 c] 25) (keepA (o := .cells #[.int .i64 n, .int .i64 a] 25) k3)
       exact bodyPost_ret (v := .tuple #[.agg #[.int .i64 n, .int .i64 a], .agg #[.int .i64 m, .int .i64 c]]) (by simp [results, Try.results26, go_sem, l0, l1, l2, l3]) rfl ⟨n, a, m, c, rfl, IN.out.1, IN.out.2.1, IN.out.2.2.1, IN.out.2.2.2, bD (bA (by simp; omega) (bA (by simp; omega) (bS (by dsimp only; omega) (bS (by dsimp only; omega) (bS (by dsimp only; omega) (bS (by dsimp only; omega) B1.out))))))⟩)
    | (obtain ⟨k0, k1, k2, k3⟩ := K2.out (.int .i64 m) (.int .i64 c) (.int .i64 n) (.int .i64 a)
       have l0 := keepA (o := .cells #[.int .i64 m, .int .i64 c] 25) (keepA (o := .cells #[.int .i64 n, .int .i64 a] 25) k0)
       have l1 := keepA (o := .cells #[.int .i64 m, .int .i64 c] 25) (keepA (o := .cells #[.int .i64 n, .int .i64 a] 25) k1)
       have l2 := keepA (o := .cells #[.int .i64 m, .int .i64 c] 25) (keepA (o := .cells #[.int .i64 n, .int .i64 a] 25) k2)
       have l3 := keepA (o := .cells #[.int .i64 m, .int .i64 c] 25) (keepA (o := .cells #[.int .i64 n, .int .i64 a] 25) k3)
       exact bodyPost_ret (v := .tuple #[.agg #[.int .i64 n, .int .i64 a], .agg #[.int .i64 m, .int .i64 c]]) (by simp [results, Try.results26, go_sem, l0, l1, l2, l3]) rfl ⟨n, a, m, c, rfl, IN.out.1, IN.out.2.1, IN.out.2.2.1, IN.out.2.2.2, bD (bA (by simp; omega) (bA (by simp; omega) (bS (by dsimp only; omega) (bS (by dsimp only; omega) (bS (by dsimp only; omega) (bS (by dsimp only; omega) B1.out))))))⟩)

theorem act_in {n a : Nat} {p : List Int} {s b : Nat} (hp : p ∈ permsL n) (hs : s < 2 ^ n) (hb : b < 2) : act n a p s b ∈ waysL n a := by
  simp only [waysL, wayP, List.mem_flatMap, List.mem_range]
  refine ⟨p, hp, s, hs, ?_⟩
  rw [pair_act n a p s hs]
  have : b = 0 ∨ b = 1 := by omega
  rcases this with rfl | rfl <;> simp
theorem in_act {n a x : Nat} (h : x ∈ waysL n a) : ∃ p s b, p ∈ permsL n ∧ s < 2 ^ n ∧ b < 2 ∧ x = act n a p s b := by
  simp only [waysL, wayP, List.mem_flatMap, List.mem_range] at h
  obtain ⟨p, hp, s, hs, hx⟩ := h
  rw [pair_act n a p s hs] at hx
  simp only [List.mem_cons, List.not_mem_nil, or_false] at hx
  rcases hx with rfl | rfl
  · exact ⟨p, s, 0, hp, hs, by decide, rfl⟩
  · exact ⟨p, s, 1, hp, hs, by decide, rfl⟩
theorem comp_in {n : Nat} (hn : n ≤ 4) {p q : List Int} (hp : p ∈ permsL n) (hq : q ∈ permsL n) : compL q p ∈ permsL n :=
  (comp_perm n hn q hq).mem_iff.1 (List.mem_map.2 ⟨p, hp, rfl⟩)
theorem ways_sub {n a x : Nat} (hn : n ≤ 4) {p : List Int} {s b : Nat} (hp : p ∈ permsL n) (hs : s < 2 ^ n) (h : x ∈ waysL n (act n a p s b)) : x ∈ waysL n a := by
  obtain ⟨q, t, c, hq, ht, hc, rfl⟩ := in_act h
  rw [act_act hn hp hq hs ht]
  obtain ⟨_, _, qr, _, _⟩ := permB_facts (by omega) (perms_ok n hn q hq)
  exact act_in (comp_in hn hp hq) (Nat.xor_lt_two_pow ht (sca_lt q n s qr)) (Nat.mod_lt _ (by decide))
theorem inv_all : ∀ n, n < 5 → ∀ p ∈ permsL n, ∃ q ∈ permsL n, compL q p = idL n := by decide +kernel
theorem act_id {n a : Nat} (ha : a < 2 ^ 2 ^ n) : act n a (idL n) 0 0 = a := by
  refine (tabN_congr fun y hy => ?_).trans (tabN_self a (2 ^ n) ha)
  show (bitN a (gatN (idL n) n (y ^^^ 0)) + 0) % 2 = bitN a y
  rw [bit_mod, Nat.xor_zero, id_gat n y hy]
theorem act_back {n a : Nat} (hn : n ≤ 4) (ha : a < 2 ^ 2 ^ n) {p : List Int} {s b : Nat} (hp : p ∈ permsL n) (hs : s < 2 ^ n) (hb : b < 2) : ∃ q t c, q ∈ permsL n ∧ t < 2 ^ n ∧ c < 2 ∧ act n (act n a p s b) q t c = a := by
  obtain ⟨q, hq, he⟩ := inv_all n (by omega) p hp
  obtain ⟨_, _, qr, _, _⟩ := permB_facts (by omega) (perms_ok n hn q hq)
  refine ⟨q, scaN q n s, b, hq, sca_lt q n s qr, hb, ?_⟩
  rw [act_act hn hp hq hs (sca_lt q n s qr), he, Nat.xor_self, show (b + b) % 2 = 0 by omega, act_id ha]

theorem leastW_act {n a : Nat} (hn : n ≤ 4) (ha : a ≤ fullN n) {q : List Int} {t c : Nat} (hq : q ∈ permsL n) (ht : t < 2 ^ n) (hc : c < 2) : leastW n (act n a q t c) = leastW n a := by
  have hlt := fullN_lt a ha
  obtain ⟨g1, g2, g3⟩ := min_fold (waysL n (act n a q t c)) (act n a q t c)
  refine least_is hn ha ?_ (.inr ?_)
  · intro x hx
    obtain ⟨p, s, b, hp, hs, hb, he⟩ := act_back hn hlt hq ht hc
    rw [← he] at hx
    exact g2 x (ways_sub hn hp hs hx)
  · rcases g3 with h | h
    · rw [show leastW n (act n a q t c) = act n a q t c from h]; exact act_in hq ht hc
    · exact ways_sub hn hq ht h

theorem ways_mul {n a : Nat} (hn : n ≤ 4) (ha : a ≤ fullN n) : (waysL n a).length / (waysL n a).count a * (waysL n a).count a = (waysL n a).length := by
  have hlt := fullN_lt a ha
  have h := ways_size hn hlt ((List.range (fullN n + 1)).filter fun x => decide (x ∈ waysL n a)) (List.nodup_range.filter _) (by
    intro x
    simp only [List.mem_filter, List.mem_range, decide_eq_true_eq]
    exact ⟨fun h => h.2, fun h => ⟨by have := ways_full n a x h; omega, h⟩⟩)
  have hpos := count_pos hn hlt
  rw [h]
  rw [Nat.mul_div_cancel _ hpos]

theorem leastW_le (n a : Nat) : leastW n a ≤ a := (min_fold _ _).1

end Go.Proofs.Ythdcjldmafhcjaa
