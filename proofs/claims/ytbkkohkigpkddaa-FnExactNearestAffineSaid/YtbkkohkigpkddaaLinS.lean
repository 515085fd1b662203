/-
  Chapter 14, the program: the comparing function; slices.MinFunc and firstLeast of the sums; NearestAffine, IsAffine.
-/
import Derived.Test.YtbkkohkigpkddaaLinL
import Derived.Test.YtbkkohkigpkddaaCmpI
namespace Go.Proofs.Ytbkkohkigpkddaa
open Go.RowKit Plain Go.Shelf
set_option linter.unusedVariables false
set_option linter.unusedSimpArgs false
attribute [local go_sem ↓] Go.wp_at_zero Go.wp_at_succ

set_option maxRecDepth 100000 in
set_option maxHeartbeats 4000000 in
/-- The comparing function of firstLeast, the key being the distance. -/
theorem Clo.sum (n a u b u' b' fb kb : Nat) (hn : n ≤ 5) (ha : (a : Int) ≤ 4294967295) (hu : u < 32) (hb : b < 2) (hu' : u' < 32) (hb' : b' < 2) (W : World)
    (h0 : W.cell? ⟨fb, 0, none⟩ = some (.int .i64 n)) (h1 : W.cell? ⟨fb, 1, none⟩ = some (.int .i64 a)) (hk : W.cell? ⟨kb, 0, none⟩ = some (.func (.func 33) #[] #[.pointer (some ⟨fb, 0, none⟩)])) :
    Calls Try.prog 48 #[.agg #[.int .i64 u, .int .i64 b], .agg #[.int .i64 u', .int .i64 b'], .pointer (some ⟨kb, 0, none⟩)] W fun e w' => e = .returned (.int .i64 (cmpI (disN (bitN a) (affB u b) (2 ^ n) : Int) (disN (bitN a) (affB u' b') (2 ^ n) : Int))) ∧ Below W.heap.size W w' := by
  have hlf := World.block_lt_of_cell? W _ h0
  have hlk := World.block_lt_of_cell? W _ hk
  have p0 := keepA (o := .cells #[.int .i64 u', .int .i64 b'] 43) (keepA (o := .cells #[.int .i64 u, .int .i64 b] 43) h0)
  have p1 := keepA (o := .cells #[.int .i64 u', .int .i64 b'] 43) (keepA (o := .cells #[.int .i64 u, .int .i64 b] 43) h1)
  have pk := keepA (o := .cells #[.int .i64 u', .int .i64 b'] 43) (keepA (o := .cells #[.int .i64 u, .int .i64 b] 43) hk)
  have x0 : ((W.alloc (.cells #[.int .i64 u, .int .i64 b] 43)).alloc (.cells #[.int .i64 u', .int .i64 b'] 43)).cell? ⟨W.heap.size, 0, none⟩ = some (.int .i64 u) := keepA (keepN rfl rfl)
  have x1 : ((W.alloc (.cells #[.int .i64 u, .int .i64 b] 43)).alloc (.cells #[.int .i64 u', .int .i64 b'] 43)).cell? ⟨W.heap.size, 1, none⟩ = some (.int .i64 b) := keepA (keepN rfl rfl)
  have y0 : ((W.alloc (.cells #[.int .i64 u, .int .i64 b] 43)).alloc (.cells #[.int .i64 u', .int .i64 b'] 43)).cell? ⟨W.heap.size + 1, 0, none⟩ = some (.int .i64 u') := keepN (by simp) rfl
  have y1 : ((W.alloc (.cells #[.int .i64 u, .int .i64 b] 43)).alloc (.cells #[.int .i64 u', .int .i64 b'] 43)).cell? ⟨W.heap.size + 1, 1, none⟩ = some (.int .i64 b') := keepN (by simp) rfl
  have HB0 : Hid (Below W.heap.size W ((W.alloc (.cells #[.int .i64 u, .int .i64 b] 43)).alloc (.cells #[.int .i64 u', .int .i64 b'] 43))) := Lib.hid (((Below.refl _ _).alloc (Nat.le_refl _) _).alloc (by simp) _)
  have hs0 : W.heap.size + 2 = ((W.alloc (.cells #[.int .i64 u, .int .i64 b] 43)).alloc (.cells #[.int .i64 u', .int .i64 b'] 43)).heap.size := by simp
  clear h0 h1 hk
  generalize hX : (W.alloc (.cells #[.int .i64 u, .int .i64 b] 43)).alloc (.cells #[.int .i64 u', .int .i64 b'] 43) = X at *
  have HK1 : Hid (∀ w', Below X.heap.size X w' → Calls Try.prog 33 #[.agg #[.int .i64 u, .int .i64 b], .pointer (some ⟨fb, 0, none⟩)] w' fun e w'' => e = .returned (.int .i64 (disN (bitN a) (affB u b) (2 ^ n) : Int)) ∧ Below w'.heap.size w' w'') :=
    Lib.hid (fun w' hbel => Key.any n a u b fb hn ha hu hb w' (keepB hbel p0) (keepB hbel p1))
  have HK2 : Hid (∀ w', Below X.heap.size X w' → Calls Try.prog 33 #[.agg #[.int .i64 u', .int .i64 b'], .pointer (some ⟨fb, 0, none⟩)] w' fun e w'' => e = .returned (.int .i64 (disN (bitN a) (affB u' b') (2 ^ n) : Int)) ∧ Below w'.heap.size w' w'') :=
    Lib.hid (fun w' hbel => Key.any n a u' b' fb hn ha hu' hb' w' (keepB hbel p0) (keepB hbel p1))
  generalize disN (bitN a) (affB u b) (2 ^ n) = d1 at *
  generalize disN (bitN a) (affB u' b') (2 ^ n) = d2 at *
  have HZ := Lib.hid (Cmp.any (d1 : Int) (d2 : Int))
  generalize cmpI (d1 : Int) (d2 : Int) = z at *
  clear p0 p1
  go_enter Try.func48, Try.ntmps48
  go_wp2_with fail
  go_region_held3 (fun w' => w'.cell? ⟨kb, 0, none⟩ = some (.func (.func 33) #[] #[.pointer (some ⟨fb, 0, none⟩)]) ∧ w'.cell? ⟨W.heap.size, 0, none⟩ = some (.int .i64 u) ∧ w'.cell? ⟨W.heap.size, 1, none⟩ = some (.int .i64 b) ∧ w'.cell? ⟨W.heap.size + 1, 0, none⟩ = some (.int .i64 u') ∧ w'.cell? ⟨W.heap.size + 1, 1, none⟩ = some (.int .i64 b')) ((first | (go_split_ands; (try dsimp only); (refine ⟨?_, ?_, ?_, ?_, ?_⟩ <;> (repeat (first | with_reducible assumption | ((with_reducible refine keepU ?_); (with_reducible assumption)) | (with_reducible refine keepD ?_) | (with_reducible refine keepB hbA ?_) | (with_reducible refine keepB hbB ?_)))); done) | go_keep))
    (first
      | (with_reducible refine (HK1.out _ (by repeat (first | (with_reducible exact Below.refl _ _) | (with_reducible refine bD ?_) | ((with_reducible refine bB hbB ?_ ?_); (focus (simp; done)))))).mono ?_; rintro e w5 ⟨rfl, hbA⟩; obtain ⟨hcA, hfA⟩ := bcell hbA; have hsA := hbA.size; try simp only [World.size_drew] at hsA)
      | (with_reducible refine (HK2.out _ (by repeat (first | (with_reducible exact Below.refl _ _) | (with_reducible refine bD ?_) | ((with_reducible refine bB hbA ?_ ?_); (focus (simp; done)))))).mono ?_; rintro e w6 ⟨rfl, hbB⟩; obtain ⟨hcB, hfB⟩ := bcell hbB; have hsB := hbB.size; try simp only [World.size_drew] at hsB)
      | (with_reducible refine (HZ.out _).mono ?_; rintro e w7 ⟨rfl, rfl⟩))
  all_goals
    go_wp2
    go_ret
    exact ⟨rfl, by repeat (first | (with_reducible exact HB0.out) | (with_reducible refine bD ?_) | ((with_reducible refine bB hbB ?_ ?_); (focus (first | omega | (simp; done) | (simp; omega)))) | ((with_reducible refine bB hbA ?_ ?_); (focus (first | omega | (simp; done) | (simp; omega)))))⟩

theorem sm_set2 {w : World} {b : Nat} {x y : Value} {T : TypeId} (h : w.heap[b]? = some (.cells #[x, y] T (0, 0))) (u v : Value) : ((w.setCell ⟨b, 0, none⟩ u).setCell ⟨b, 1, none⟩ v).heap[b]? = some (.cells #[u, v] T (0, 0)) := by
  have h1 : (w.setCell ⟨b, 0, none⟩ u).heap[b]? = some (.cells #[u, y] T (0, 0)) := by rw [heap_setCell_same w b 0 _ _ u h]; rfl
  rw [heap_setCell_same _ b 1 _ _ v h1]; rfl
theorem sm_set2o {w : World} {b c : Nat} {o : Option Obj} (h : w.heap[c]? = o) (hne : b ≠ c) (u v : Value) : ((w.setCell ⟨b, 0, none⟩ u).setCell ⟨b, 1, none⟩ v).heap[c]? = o := by
  rw [heap_setCell_other _ ⟨b, 1, none⟩ c v (fun e => hne (by simp [e])), heap_setCell_other _ ⟨b, 0, none⟩ c u (fun e => hne (by simp [e]))]; exact h

/-- What is asked of the function value that compares two sums. -/
def KeySm (g : Nat) (lb : Array Value) (n a m : Nat) (w : World) : Prop :=
  ∀ (W : World) (i j : Nat), i < m → j < m → Below w.heap.size w W →
    Calls Try.prog g (#[.agg #[.int .i64 ((i / 2 : Nat) : Int), .int .i64 ((i % 2 : Nat) : Int)], .agg #[.int .i64 ((j / 2 : Nat) : Int), .int .i64 ((j % 2 : Nat) : Int)]] ++ lb) W fun e w' => e = .returned (.int .i64 (cmpI (nrD n a i : Int) (nrD n a j : Int))) ∧ Below W.heap.size W w'

set_option maxRecDepth 100000 in
set_option maxHeartbeats 4000000 in
/-- slices.MinFunc: the first of the sums that is nearest. -/
theorem MinF.sum (n a m b cap : Nat) (hm : 0 < m) (hm64 : m ≤ 64) (g : Nat) (lb : Array Value) (eg : ∀ args w, (callFunc g args).run Try.prog w = .ok (.enter g args) w) (w : World) (hblt : b < w.heap.size)
    (hcel : ∀ j, j < m → w.cell? ⟨b, j * 2, none⟩ = some (.int .i64 ((j / 2 : Nat) : Int)) ∧ w.cell? ⟨b, j * 2 + 1, none⟩ = some (.int .i64 ((j % 2 : Nat) : Int))) (hk : KeySm g lb n a m w) :
    Calls Try.prog 47 #[.slice (some ⟨b, 0, none⟩) m cap, .func (.func g) #[] lb] w fun e w' => e = .returned (.agg #[.int .i64 ((nrJ n a m / 2 : Nat) : Int), .int .i64 ((nrJ n a m % 2 : Nat) : Int)]) ∧ Below w.heap.size w w' := by
  have HK := Lib.hid hk
  have HC := Lib.hid hcel
  obtain ⟨h0c, h1c⟩ := hcel 0 hm
  rw [Nat.zero_mul] at h0c
  rw [Nat.zero_mul] at h1c
  have hl1 : ¬ ((m : Int) < 1) := by omega
  have hl0 : (0 : Int) < (m : Int) := by omega
  have hmz : (m : Int) ≤ 64 := by omega
  have E1 := Lib.hid (nrJ_one n a)
  clear hk hcel
  go_enter Try.func47, Try.ntmps47
  go_wp2_with fail
  go_loopw [6] (fun i wr => ∃ k : Nat, i = .int .i64 (k : Int) ∧ 1 ≤ k ∧ k ≤ m ∧ wr.heap[w.heap.size]? = some (.cells #[.int .i64 0, .int .i64 0] 43 (0, 0)) ∧ wr.heap[w.heap.size + 1]? = some (.cells #[.int .i64 ((nrJ n a k / 2 : Nat) : Int), .int .i64 ((nrJ n a k % 2 : Nat) : Int)] 43 (0, 0)) ∧ Below w.heap.size w wr) (fun i _ => m - (intOf i).toNat)
  case atStart => exact ⟨1, rfl, by omega, by omega, heap_alloc2_old w _ _, by rw [E1.out]; exact heap_alloc2_new w _ _, ((Below.refl _ _).alloc (Nat.le_refl _) _).alloc (by simp) _⟩
  case round =>
    obtain ⟨k, rfl, hk1, hk, hr, hm1, hbel⟩ := hrel
    have hsz := hbel.size
    have HB := Lib.hid hbel
    have HR := Lib.hid hr
    have HM := Lib.hid hm1
    have hlt2 : w.heap.size + 1 < wr.heap.size := lt_of_block hm1
    by_cases hlt : k < m
    · have hlz : (k : Int) < (m : Int) := by omega
      have hjl := nrJ_lt n a k (by omega)
      have HG := Lib.hid (fun W (hb : Below w.heap.size w W) => HK.out W k (nrJ n a k) hlt (by omega) hb)
      have ck0 : wr.cell? ⟨b, k * 2, none⟩ = some (.int .i64 ((k / 2 : Nat) : Int)) := (hbel.cell (p := ⟨b, k * 2, none⟩) hblt).trans (HC.out k hlt).1
      have ck1 : wr.cell? ⟨b, k * 2 + 1, none⟩ = some (.int .i64 ((k % 2 : Nat) : Int)) := (hbel.cell (p := ⟨b, k * 2 + 1, none⟩) hblt).trans (HC.out k hlt).2
      obtain ⟨m0, m1, _, _⟩ := cells2 hm1
      have HON := Lib.hid (nrJ_on (n := n) (a := a) (k := k))
      have HOFF := Lib.hid (nrJ_off (n := n) (a := a) (k := k))
      clear hbel hr hm1
      by_cases hd : nrD n a k < nrD n a (nrJ n a k)
      · have HE := Lib.hid (HON.out hd)
        have hcz : cmpI (nrD n a k : Int) (nrD n a (nrJ n a k) : Int) < 0 := by simpa using cmpI_lt hd
        generalize cmpI (nrD n a k : Int) (nrD n a (nrJ n a k) : Int) = z at *
        clear hd
        generalize hJ1 : nrJ n a (k + 1) = J1 at *
        generalize nrJ n a k = J at *
        generalize hk2 : k / 2 = kq at *
        generalize hk3 : k % 2 = kr at *
        generalize J / 2 = jq at *
        generalize J % 2 = jr at *
        go_wp2_with fail
        go_region_with (refine (HG.out _ (by repeat (first | (with_reducible exact HB.out) | (with_reducible refine bD ?_)))).mono ?_; rintro e w2 ⟨rfl, hb2⟩; have X0 := blockOn (by exact HR.out) hb2; have X1 := blockOn (by exact HM.out) hb2; obtain ⟨r0, r1, rf0, rf1⟩ := cells2 X0; obtain ⟨q0, q1, qf0, qf1⟩ := cells2 X1; have g0 : w2.cell? ⟨b, k * 2, none⟩ = some (.int .i64 (kq : Int)) := keepB hb2 ck0; have g1 : w2.cell? ⟨b, k * 2 + 1, none⟩ = some (.int .i64 (kr : Int)) := keepB hb2 ck1; have HX0 := Lib.hid X0; have HX1 := Lib.hid X1; have HB2 : Hid (Below w.heap.size w w2) := Lib.hid (bB hb2 (by exact hsz) (by repeat (first | (with_reducible exact HB.out) | (with_reducible refine bD ?_)))); clear X0 X1 hb2)
        all_goals
          go_wp2_with fail
          exact ⟨⟨k + 1, by go_num, by omega, by omega, sm_set2o HX0.out (by omega) _ _, by rw [hJ1, HE.out, hk2, hk3]; exact sm_set2 HX1.out _ _, bS (by simp) (bS (by simp) HB2.out)⟩, by simp [intOf] <;> omega⟩
      · have HE := Lib.hid (HOFF.out hd)
        have hcz : ¬ cmpI (nrD n a k : Int) (nrD n a (nrJ n a k) : Int) < 0 := by simpa using cmpI_ge hd
        generalize cmpI (nrD n a k : Int) (nrD n a (nrJ n a k) : Int) = z at *
        clear hd
        generalize hJ1 : nrJ n a (k + 1) = J1 at *
        generalize hJ0 : nrJ n a k = J at *
        generalize hk2 : k / 2 = kq at *
        generalize hk3 : k % 2 = kr at *
        generalize hj2 : J / 2 = jq at *
        generalize hj3 : J % 2 = jr at *
        go_wp2_with fail
        go_region_with (refine (HG.out _ (by repeat (first | (with_reducible exact HB.out) | (with_reducible refine bD ?_)))).mono ?_; rintro e w2 ⟨rfl, hb2⟩; have X0 := blockOn (by exact HR.out) hb2; have X1 := blockOn (by exact HM.out) hb2; obtain ⟨r0, r1, rf0, rf1⟩ := cells2 X0; obtain ⟨q0, q1, qf0, qf1⟩ := cells2 X1; have g0 : w2.cell? ⟨b, k * 2, none⟩ = some (.int .i64 (kq : Int)) := keepB hb2 ck0; have g1 : w2.cell? ⟨b, k * 2 + 1, none⟩ = some (.int .i64 (kr : Int)) := keepB hb2 ck1; have HX0 := Lib.hid X0; have HX1 := Lib.hid X1; have HB2 : Hid (Below w.heap.size w w2) := Lib.hid (bB hb2 (by exact hsz) (by repeat (first | (with_reducible exact HB.out) | (with_reducible refine bD ?_)))); clear X0 X1 hb2)
        all_goals
          go_wp2_with fail
          exact ⟨⟨k + 1, by go_num, by omega, by omega, HX0.out, by rw [hJ1, HE.out, hj2, hj3]; exact HX1.out, HB2.out⟩, by simp [intOf] <;> omega⟩
    · obtain rfl : k = m := by omega
      have hlz : ¬ (k : Int) < (k : Int) := by omega
      obtain ⟨r0, r1, rf0, rf1⟩ := cells2 hr
      obtain ⟨q0, q1, qf0, qf1⟩ := cells2 hm1
      generalize hjq : ((nrJ n a k / 2 : Nat) : Int) = jq at *
      generalize hjr : ((nrJ n a k % 2 : Nat) : Int) = jr at *
      clear hbel hr hm1
      go_wp2
      obtain ⟨k0, k1⟩ := keepT (Y := wr) (g := w.heap.size) (u := .int .i64 jq) (v := .int .i64 jr) r0 r1
      exact bodyPost_ret (v := .agg #[.int .i64 jq, .int .i64 jr]) (by simp [results, Try.results47, go_sem, k0, k1]) rfl ⟨by simp [← hjq, ← hjr], bS (by simp) (bS (by simp) HB.out)⟩

set_option maxRecDepth 100000 in
set_option maxHeartbeats 2000000 in
theorem First.sum (n a m b cap fb : Nat) (hn : n ≤ 5) (ha : (a : Int) ≤ 4294967295) (hm : 0 < m) (hm64 : m ≤ 64) (w : World) (hblt : b < w.heap.size)
    (hcel : ∀ j, j < m → w.cell? ⟨b, j * 2, none⟩ = some (.int .i64 ((j / 2 : Nat) : Int)) ∧ w.cell? ⟨b, j * 2 + 1, none⟩ = some (.int .i64 ((j % 2 : Nat) : Int)))
    (h0 : w.cell? ⟨fb, 0, none⟩ = some (.int .i64 n)) (h1 : w.cell? ⟨fb, 1, none⟩ = some (.int .i64 a)) :
    Calls Try.prog 35 #[.slice (some ⟨b, 0, none⟩) m cap, .func (.func 33) #[] #[.pointer (some ⟨fb, 0, none⟩)]] w fun e w' => e = .returned (.agg #[.int .i64 ((nrJ n a m / 2 : Nat) : Int), .int .i64 ((nrJ n a m % 2 : Nat) : Int)]) ∧ Below w.heap.size w w' := by
  have HC := Lib.hid hcel
  have H0 := Lib.hid h0
  have H1 := Lib.hid h1
  have HM := Lib.hid (MinF.sum n a m b cap hm hm64 48 #[.pointer (some ⟨w.heap.size, 0, none⟩)] (enters_of Try.func48 (by kernel_rfl) rfl))
  generalize ((nrJ n a m / 2 : Nat) : Int) = jq at *
  generalize ((nrJ n a m % 2 : Nat) : Int) = jr at *
  clear hcel h0 h1
  go_enter Try.func35, Try.ntmps35
  go_wp2_with fail
  refine (HM.out _ (by simp; omega) (fun j hj => ⟨keepA (keepA (HC.out j hj).1), keepA (keepA (HC.out j hj).2)⟩) ?gv).mono ?_
  case gv =>
    intro W i j hi hj hbel
    exact Clo.sum n a (i / 2) (i % 2) (j / 2) (j % 2) fb w.heap.size hn ha (by omega) (by omega) (by omega) (by omega) W (keepB hbel (keepA (keepA H0.out))) (keepB hbel (keepA (keepA H1.out))) (keepB hbel (keepA (keepN rfl rfl)))
  rintro e w1 ⟨rfl, hb1⟩
  have r0 : w1.cell? ⟨w.heap.size + 1, 0, none⟩ = some (.int .i64 0) := keepB hb1 (keepN (by simp) rfl)
  have r1 : w1.cell? ⟨w.heap.size + 1, 1, none⟩ = some (.int .i64 0) := keepB hb1 (keepN (by simp) rfl)
  have hs := hb1.size
  simp only [World.size_alloc] at hs
  have HB : Hid (Below w.heap.size w w1) := Lib.hid (bB hb1 (by simp; omega) (bA (by simp) (bA (Nat.le_refl _) (Below.refl _ _))))
  obtain ⟨hc1, hf1⟩ := bcell hb1
  clear hb1
  go_wp2
  obtain ⟨k0, k1⟩ := keepT (Y := w1) (g := w.heap.size + 1) (u := .int .i64 jq) (v := .int .i64 jr) r0 r1
  exact bodyPost_ret (v := .agg #[.int .i64 jq, .int .i64 jr]) (by simp [results, Try.results35, go_sem, k0, k1]) rfl ⟨rfl, bS (by simp) (bS (by simp) HB.out)⟩

set_option maxRecDepth 100000 in
theorem Nea.impl_no (n a : Int) (hb : -9223372036854775808 ≤ a ∧ a ≤ 9223372036854775807) (ht : isT n a = false) (w : World) :
    Calls Try.prog 16 #[.agg #[.int .i64 n, .int .i64 a]] w fun e w' => e = .returned (.tuple #[.int .i64 0, .int .i64 0, .int .i64 0, .bool false]) ∧ Below w.heap.size w w' := by
  have HT := Lib.hid (Tab.impl n a hb)
  have H := Lib.hid ht
  clear ht hb
  go_enter Try.func16, Try.ntmps16
  go_wp2_with fail
  refine (HT.out _).mono ?_
  rintro e w1 ⟨rfl, hb1⟩
  rw [H.out]
  go_wp2
  exact bodyPost_ret (v := .tuple #[.int .i64 0, .int .i64 0, .int .i64 0, .bool false]) (by simp [results, Try.results16, go_sem]) rfl ⟨rfl, ((Below.refl _ _).alloc (Nat.le_refl _) _).trans (hb1.mono (by simp))⟩

set_option maxRecDepth 100000 in
set_option maxHeartbeats 4000000 in
theorem Nea.impl_yes (n a : Nat) (hn : n ≤ 5) (ht : isT n a = true) (ha : (a : Int) ≤ 4294967295) (w : World) :
    Calls Try.prog 16 #[.agg #[.int .i64 n, .int .i64 a]] w fun e w' => e = .returned (.tuple #[.int .i64 ((nrJ n a (2 * 2 ^ n) / 2 : Nat) : Int), .int .i64 ((nrJ n a (2 * 2 ^ n) % 2 : Nat) : Int), .int .i64 (nrD n a (nrJ n a (2 * 2 ^ n)) : Int), .bool true]) ∧ Below w.heap.size w w' := by
  have H := Lib.hid ht
  have HT := Lib.hid (Tab.impl n a (by omega))
  have h32 := two_pow_le n hn
  have hpos : 0 < 2 ^ n := Nat.two_pow_pos n
  have HS := Lib.hid (Sms.any n hn)
  have hJ := nrJ_lt n a (2 * 2 ^ n) (by omega)
  have HF := Lib.hid (fun b cap fb w h1 h2 h3 h4 => First.sum n a (2 * 2 ^ n) b cap fb hn ha (by omega) (by omega) w h1 h2 h3 h4)
  have HKY := Lib.hid (fun fb w h1 h2 => Key.any n a (nrJ n a (2 * 2 ^ n) / 2) (nrJ n a (2 * 2 ^ n) % 2) fb hn ha (by omega) (by omega) w h1 h2)
  have HD : Hid (disN (bitN a) (affB (nrJ n a (2 * 2 ^ n) / 2) (nrJ n a (2 * 2 ^ n) % 2)) (2 ^ n) = nrD n a (nrJ n a (2 * 2 ^ n))) := Lib.hid rfl
  rw [HD.out] at HKY
  have hll := smL_len (2 * 2 ^ n)
  have HGD := Lib.hid (fun j (hj : j < 2 * 2 ^ n) => smL_getD hj)
  clear ht HD
  generalize nrD n a (nrJ n a (2 * 2 ^ n)) = d at *
  generalize nrJ n a (2 * 2 ^ n) = J at *
  generalize hjq : J / 2 = jq at *
  generalize hjr : J % 2 = jr at *
  generalize smL (2 * 2 ^ n) = l at *
  generalize 2 * 2 ^ n = m at *
  go_enter Try.func16, Try.ntmps16
  go_wp2_with fail
  refine (HT.out _).mono ?_
  rintro e w1 ⟨rfl, hb1⟩
  rw [H.out]
  have c0 : w1.cell? ⟨w.heap.size, 0, none⟩ = some (.int .i64 n) := (hb1.cell (by simp)).trans (keepN rfl rfl)
  have c1 : w1.cell? ⟨w.heap.size, 1, none⟩ = some (.int .i64 a) := (hb1.cell (by simp)).trans (keepN rfl rfl)
  have HB := Lib.hid (((Below.refl w.heap.size w).alloc (Nat.le_refl _) _).trans (hb1.mono (by simp)))
  have hs1 := hb1.size
  simp only [World.size_alloc] at hs1
  clear hb1
  go_wp2_with fail
  refine (HS.out _).mono ?_
  rintro e w2 ⟨v, rfl, hrow, hb2⟩
  have d0 := keepB hb2 c0
  have d1 := keepB hb2 c1
  have hs2 := hb2.size
  have HB2 := Lib.hid (HB.out.trans (hb2.mono (by omega)))
  clear hb2 c0 c1
  rcases hrow.shape with ⟨rfl, hnil⟩ | ⟨g, cap, rfl, hgB, hg, _, _⟩
  · rw [hnil] at hll
    exact absurd hll (by simp; omega)
  · have HC : Hid (∀ j, j < m → w2.cell? ⟨g, j * 2, none⟩ = some (.int .i64 ((j / 2 : Nat) : Int)) ∧ w2.cell? ⟨g, j * 2 + 1, none⟩ = some (.int .i64 ((j % 2 : Nat) : Int))) := Lib.hid (fun j hj => by
      have h := hrow.cell j (by omega)
      rw [HGD.out j hj] at h
      exact h)
    rw [hll]
    clear hrow
    go_wp2_with fail
    refine (HF.out g cap w.heap.size w2 hg HC.out d0 d1).mono ?_
    rintro e w3 ⟨rfl, hb3⟩
    have e0 := keepB hb3 d0
    have e1 := keepB hb3 d1
    have hs3 := hb3.size
    have HB3 := Lib.hid (HB2.out.trans (hb3.mono (by omega)))
    clear hb3 d0 d1
    have x0 : (w3.alloc (.cells #[.int .i64 jq, .int .i64 jr] 43)).cell? ⟨w3.heap.size, 0, none⟩ = some (.int .i64 jq) := keepN rfl rfl
    have x1 : (w3.alloc (.cells #[.int .i64 jq, .int .i64 jr] 43)).cell? ⟨w3.heap.size, 1, none⟩ = some (.int .i64 jr) := keepN rfl rfl
    have p0 := keepA (o := .cells #[.int .i64 jq, .int .i64 jr] 43) e0
    have p1 := keepA (o := .cells #[.int .i64 jq, .int .i64 jr] 43) e1
    have HB4 := Lib.hid (HB3.out.alloc (o := .cells #[.int .i64 jq, .int .i64 jr] 43) (by omega))
    have hs4 : w3.heap.size < (w3.alloc (.cells #[.int .i64 jq, .int .i64 jr] 43)).heap.size := by simp
    clear e0 e1
    go_wp2_with fail
    generalize hX : w3.alloc (.cells #[.int .i64 jq, .int .i64 jr] 43) = X at *
    have HK1 : Hid (∀ w', Below X.heap.size X w' → Calls Try.prog 33 #[.agg #[.int .i64 jq, .int .i64 jr], .pointer (some ⟨w.heap.size, 0, none⟩)] w' fun e w'' => e = .returned (.int .i64 (d : Int)) ∧ Below w'.heap.size w' w'') :=
      Lib.hid (fun w' hbel => HKY.out w.heap.size w' (keepB hbel p0) (keepB hbel p1))
    have hsX : w.heap.size ≤ X.heap.size := by omega
    go_region_held3 (fun w' => w'.cell? ⟨w3.heap.size, 0, none⟩ = some (.int .i64 jq) ∧ w'.cell? ⟨w3.heap.size, 1, none⟩ = some (.int .i64 jr)) ((first | (go_split_ands; (try dsimp only); (refine ⟨?_, ?_⟩ <;> (repeat (first | with_reducible assumption | ((with_reducible refine keepU ?_); (with_reducible assumption)) | (with_reducible refine keepD ?_) | (with_reducible refine keepB hbA ?_)))); done) | go_keep))
      (with_reducible refine (HK1.out _ (by repeat (first | (with_reducible exact Below.refl _ _) | (with_reducible refine bD ?_)))).mono ?_; rintro e w5 ⟨rfl, hbA⟩; obtain ⟨hcA, hfA⟩ := bcell hbA; have hsA := hbA.size; try simp only [World.size_drew] at hsA)
    all_goals
      go_wp2
      exact bodyPost_ret (v := .tuple #[.int .i64 jq, .int .i64 jr, .int .i64 d, .bool true]) (by simp [results, Try.results16, go_sem]) rfl ⟨by simp [← hjq, ← hjr], by repeat (first | (with_reducible exact HB4.out) | (with_reducible refine bD ?_) | ((with_reducible refine bB hbA ?_ ?_); (focus (first | omega | (simp; done) | (simp; omega)))))⟩

theorem Nea.impl (n a : Int) (hb : -9223372036854775808 ≤ a ∧ a ≤ 9223372036854775807) (w : World) :
    Calls Try.prog 16 #[.agg #[.int .i64 n, .int .i64 a]] w fun e w' => e = .returned (nrV (nrT n a)) ∧ Below w.heap.size w w' := by
  cases ht : isT n a with
  | false => rw [nrT_no ht]; exact Nea.impl_no n a hb ht w
  | true =>
    obtain ⟨n, a, rfl, rfl, hn, ha⟩ := isT_nat ht
    rw [nrT_yes ht]
    exact Nea.impl_yes n a hn ht (by have := fullN_le n hn; omega) w

theorem Isa.impl (n a : Int) (hb : -9223372036854775808 ≤ a ∧ a ≤ 9223372036854775807) (w : World) :
    Calls Try.prog 11 #[.agg #[.int .i64 n, .int .i64 a]] w fun e w' => e = .returned (.bool (isaT n a)) ∧ Below w.heap.size w w' := by
  have HN := Lib.hid (Nea.impl n a hb)
  unfold Plain.isaT
  generalize nrT n a = t at *
  obtain ⟨u, b, d, k⟩ := t
  unfold nrV at HN
  dsimp only at HN ⊢
  go_enter Try.func11, Try.ntmps11
  go_wp2_with fail
  refine (HN.out _).mono ?_
  rintro e w1 ⟨rfl, hb1⟩
  cases k with
  | false =>
    go_wp2
    go_ret
    exact ⟨rfl, ((Below.refl _ _).alloc (Nat.le_refl _) _).trans (hb1.mono (by simp))⟩
  | true =>
    by_cases hd : d = 0
    · subst hd
      go_wp2
      go_ret
      exact ⟨rfl, ((Below.refl _ _).alloc (Nat.le_refl _) _).trans (hb1.mono (by simp))⟩
    · have hdb : (d == 0) = false := by simpa using hd
      go_wp2
      go_ret
      exact ⟨by simp [hd], ((Below.refl _ _).alloc (Nat.le_refl _) _).trans (hb1.mono (by simp))⟩

end Go.Proofs.Ytbkkohkigpkddaa
