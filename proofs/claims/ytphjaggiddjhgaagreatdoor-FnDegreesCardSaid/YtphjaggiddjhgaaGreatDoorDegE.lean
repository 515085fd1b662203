/-
  Chapter 11: the draws of the law of degrees.
  Chapter 11: the draw of ParseAnf; what the law of degrees asks.
-/
import Derived.Test.YtphjaggiddjhgaaGreatDoorDegN
import Derived.Test.YtphjaggiddjhgaaGreatDoorDegF
import Derived.Test.YtphjaggiddjhgaaGreatDoorDrawQ
import Derived.Test.YtphjaggiddjhgaaGreatDoorDrawB
import Derived.Test.YtphjaggiddjhgaaGreatDoorDegW
import Derived.Test.YtphjaggiddjhgaaGreatDoorDegU

namespace Go.Proofs.YtphjaggiddjhgaaGreatDoor
open Go.RowKit Plain
set_option linter.unusedVariables false
attribute [local go_sem ↓] Go.wp_at_zero Go.wp_at_succ

theorem srcNew {w w' : World} {av : Value} {len b : Nat} (h : CodeIn w av len) (hb : Below w.heap.size w w') (hB : w.heap.size ≤ b) : SrcAt w' b av len := by
  obtain ⟨a, cap, rfl, hl, hrest⟩ := h
  refine ⟨a, cap, rfl, hl, fun h0 => ?_⟩
  obtain ⟨ab, off, rfl, hlt, hc⟩ := hrest h0
  refine ⟨ab, off, rfl, by omega, Nat.lt_of_lt_of_le hlt hb.size, fun j hj => ?_⟩
  obtain ⟨z, h1, h2, h3⟩ := hc j hj
  exact ⟨z, h1, h2, (hb.cell (p := ⟨ab, off + j, none⟩) hlt).trans h3⟩

theorem Draw.anf (av : Value) (len : Nat) (w : World) (hc : CodeIn w av len) :
    Calls Tryz.prog 5 #[av] w (OneOut w) := by
  have HC := Lib.hid hc
  obtain ⟨ad, cap, rfl, _, _⟩ := hc
  have BA := Lib.hid ((Below.refl w.heap.size w).alloc (Nat.le_refl _) (.cells #[.int .i64 0, .int .i64 0] 25))
  go_enter Tryz.func5, Tryz.ntmps5
  go_wp2_with fail
  refine (Cur.new _ len _ (HC.out.below BA.out)).mono ?_
  rintro e w1 ⟨b, rfl, hb, hc1, hs1, hb1⟩
  simp only [World.size_alloc] at hb
  have HBN : Hid (w.heap.size ≤ b) := Lib.hid (by omega)
  have B1 := Lib.hid (BA.out.trans (hb1.mono (by simp)))
  have X1 := Lib.hid ((hb1.block w.heap.size (by simp)).trans (heap_alloc_new w _))
  have C1 := Lib.hid hc1
  have S1 := Lib.hid hs1
  have HBE : Hid (b ≠ w.heap.size) := Lib.hid (by omega)
  clear hc1 hs1 hb1
  go_wp2_with fail
  refine (Draw.any b _ len _ C1.out S1.out).mono ?_
  rintro e w2 ⟨n, a, rfl, hn, ha, hc2, hg2⟩
  have hs2 := hg2.size
  have NN := Lib.hid hn
  have AA := Lib.hid ha
  have B2 := Lib.hid (grownNew B1.out hg2 HBN.out)
  have X2 := Lib.hid (blockOver X1.out hg2 (by have := HBE.out; omega))
  obtain ⟨z0, z1, g0, g1⟩ := cells2 X2.out
  have hz : w.heap.size < w2.heap.size := lt_of_block X2.out
  clear hn ha hc2 hg2
  go_wp2
  obtain ⟨k0, k1⟩ := keepT (Y := w2) (g := w.heap.size) (u := .int .i64 n) (v := .int .i64 a) z0 z1
  exact bodyPost_ret (v := .agg #[.int .i64 n, .int .i64 a]) (by simp [results, Tryz.results5, go_sem, k0, k1]) rfl ⟨n, a, rfl, NN.out, AA.out, bS (Nat.le_refl _) (bS (Nat.le_refl _) B2.out)⟩

theorem Draw.fa (av : Value) (len : Nat) (w : World) (hc : CodeIn w av len) :
    Calls Tryz.prog 25 #[av] w (OneOut w) := by
  have HC := Lib.hid hc
  obtain ⟨ad, cap, rfl, _, _⟩ := hc
  have BA := Lib.hid ((Below.refl w.heap.size w).alloc (Nat.le_refl _) (.cells #[.int .i64 0, .int .i64 0] 25))
  go_enter Tryz.func25, Tryz.ntmps25
  go_wp2_with fail
  refine (Cur.new _ len _ (HC.out.below BA.out)).mono ?_
  rintro e w1 ⟨b, rfl, hb, hc1, hs1, hb1⟩
  simp only [World.size_alloc] at hb
  have HBN : Hid (w.heap.size ≤ b) := Lib.hid (by omega)
  have B1 := Lib.hid (BA.out.trans (hb1.mono (by simp)))
  have X1 := Lib.hid ((hb1.block w.heap.size (by simp)).trans (heap_alloc_new w _))
  have C1 := Lib.hid hc1
  have S1 := Lib.hid hs1
  have HBE : Hid (b ≠ w.heap.size) := Lib.hid (by omega)
  clear hc1 hs1 hb1
  go_wp2_with fail
  refine (Draw.any b _ len _ C1.out S1.out).mono ?_
  rintro e w2 ⟨n, a, rfl, hn, ha, hc2, hg2⟩
  have hs2 := hg2.size
  have NN := Lib.hid hn
  have AA := Lib.hid ha
  have B2 := Lib.hid (grownNew B1.out hg2 HBN.out)
  have X2 := Lib.hid (blockOver X1.out hg2 (by have := HBE.out; omega))
  obtain ⟨z0, z1, g0, g1⟩ := cells2 X2.out
  have hz : w.heap.size < w2.heap.size := lt_of_block X2.out
  clear hn ha hc2 hg2
  go_wp2
  obtain ⟨k0, k1⟩ := keepT (Y := w2) (g := w.heap.size) (u := .int .i64 n) (v := .int .i64 a) z0 z1
  exact bodyPost_ret (v := .agg #[.int .i64 n, .int .i64 a]) (by simp [results, Tryz.results25, go_sem, k0, k1]) rfl ⟨n, a, rfl, NN.out, AA.out, bS (Nat.le_refl _) (bS (Nat.le_refl _) B2.out)⟩

/-- A list of ints. -/
def LstOut (w : World) (e : Ending) (w' : World) : Prop := ∃ v l, e = .returned v ∧ IntsIn w' v l ∧ (l.length : Int) ≤ 40 ∧ Below w.heap.size w w'
def pickL : List Int := [0, 1, -1, 1001, -9223372036854775808]
theorem pickL_in : ∀ j, j < pickL.length → In64 (pickL.getD j 0) := by
  intro j hj
  have hj5 : j < 5 := hj
  rcases (show j = 0 ∨ j = 1 ∨ j = 2 ∨ j = 3 ∨ j = 4 by omega) with rfl | rfl | rfl | rfl | rfl <;> (unfold In64 pickL; decide)
/-- What is known of the list while it is drawn. -/
structure LstAt (w0 : World) (b base : Nat) (av : Value) (len : Nat) (v : Value) (l : List Int) (X : World) : Prop where
  row : IntRow X base v l
  short : l.length ≤ 32
  mem : ∀ x ∈ l, In64 x
  cur : CurAt X b av len
  below : Below w0.heap.size w0 X
  size : base ≤ X.heap.size
  lt : b < base
  low : w0.heap.size ≤ b
theorem LstAt.grown {w0 X X' : World} {b base len : Nat} {av v : Value} {l : List Int} (h : LstAt w0 b base av len v l X) (hc : CurAt X' b av len) (hg : X.grownBy X' (some b)) : LstAt w0 b base av len v l X' :=
  ⟨h.row.kept hg (by
    cases hv : v.ownBlock with
    | none => exact .inl rfl
    | some k => exact .inr fun e => by have := (h.row.lt k hv).1; have := h.lt; cases e; omega),
   h.short, h.mem, hc, grownNew h.below hg h.low, Nat.le_trans h.size hg.size, h.lt, h.low⟩
theorem LstAt.alloc {w0 X : World} {b base len : Nat} {av v : Value} {l : List Int} (h : LstAt w0 b base av len v l X) (o : Obj) : LstAt w0 b base av len v l (X.alloc o) :=
  ⟨h.row.alloc o, h.short, h.mem, h.cur.alloc o, bA h.below.size h.below, Nat.le_trans h.size (by simp), h.lt, h.low⟩
theorem mem_set {l : List Int} {j : Nat} {y : Int} (hy : In64 y) (h : ∀ x ∈ l, In64 x) : ∀ x ∈ l.set j y, In64 x := fun x hx => by
  rcases List.mem_or_eq_of_mem_set hx with h1 | rfl
  · exact h x h1
  · exact hy
theorem LstAt.set {w0 X : World} {b base len g cap : Nat} {av : Value} {l : List Int} (h : LstAt w0 b base av len (.slice (some ⟨g, 0, none⟩) l.length cap) l X) (j : Nat) (y : Int) (hy : In64 y) :
    LstAt w0 b base av len (.slice (some ⟨g, 0, none⟩) l.length cap) (l.set j y) (X.setCell ⟨g, j, none⟩ (.int .i64 y)) := by
  have hg := (h.row.lt g rfl).1
  have hlt := h.lt
  have hlow := h.low
  exact ⟨(h.row.store rfl j y).1, by rw [List.length_set]; exact h.short, mem_set hy h.mem, h.cur.set _ _ _ (by omega), bS (by show w0.heap.size ≤ g; omega) h.below, by simpa using h.size, hlt, hlow⟩
theorem LstAt.src {w0 X : World} {b base len : Nat} {av v : Value} {l : List Int} (h : LstAt w0 b base av len v l X) (hc : CodeIn w0 av len) : SrcAt X b av len := srcNew hc h.below h.low
theorem LstAt.ints {w0 X : World} {b base len : Nat} {av v : Value} {l : List Int} (h : LstAt w0 b base av len v l X) : IntsIn X v l := h.row.ints (by have := h.short; omega) h.mem

theorem lst_snoc {X : World} {B : Nat} {v : Value} {l : List Int} (h : IntRow X B v (l ++ [0])) (hl : l.length ≤ 32) (hm : ∀ x ∈ l, In64 x) : IntsIn X v (l ++ [0]) :=
  h.ints (by rw [List.length_append]; simp; omega) (fun x hx => by
    rcases List.mem_append.1 hx with h1 | h1
    · exact hm x h1
    · simp at h1; subst h1; decide)

set_option maxRecDepth 100000 in
set_option maxHeartbeats 2000000 in
theorem Draw.toc (av : Value) (len : Nat) (w : World) (hc : CodeIn w av len) :
    Calls Tryz.prog 21 #[av] w (LstOut w) := by
  have HC := Lib.hid hc
  obtain ⟨ad, cap, rfl, _, _⟩ := hc
  go_enter Tryz.func21, Tryz.ntmps21
  go_wp2_with fail
  refine (Cur.new _ len _ HC.out).mono ?_
  rintro e w1 ⟨b, rfl, hb, hc1, hs1, hb1⟩
  have HBN := Lib.hid hb
  have B1 := Lib.hid hb1
  have C1 := Lib.hid hc1
  have S1 := Lib.hid hs1
  clear hb hc1 hs1 hb1
  go_wp2_with fail
  refine (Draw.any b _ len _ C1.out S1.out).mono ?_
  rintro e w2 ⟨n, a, rfl, hn, ha, hc2, hg2⟩
  have C2 := Lib.hid hc2
  have B2 := Lib.hid (grownNew B1.out hg2 HBN.out)
  clear hn ha hc2 hg2
  go_wp2_with fail
  refine (Rec.model n a _).mono ?_
  rintro e w3 ⟨v, rfl, hrow, hb3⟩
  obtain ⟨hlen, hmem⟩ := recT_ok n a
  have L3 : Hid (LstAt w b w2.heap.size (.slice ad len cap) len v (recT n a) w3) := Lib.hid ⟨hrow, hlen, hmem, C2.out.below hb3 C2.out.lt, B2.out.trans (hb3.mono B2.out.size), hb3.size, C2.out.lt, HBN.out⟩
  generalize recT n a = l at *
  clear hrow hb3 hlen hmem C1 S1 B1 C2 B2
  have HEND : ∀ (X : World) (v : Value) (l : List Int), Hid (LstAt w b w2.heap.size (.slice ad len cap) len v l X) → Hid (l.length ≤ 10000000) := fun X v l h => Lib.hid (by have := h.out.short; omega)
  rcases L3.out.row.shape with ⟨rfl, rfl⟩ | ⟨g, cp, rfl, hg1, hg2⟩
  · go_wp2_with fail
    have LX := L3
    refine (Draw.once b _ len 14 (by omega) _ LX.out.cur (LX.out.src HC.out)).mono ?_
    rintro e w7 ⟨r7, rfl, hc7, hg7⟩
    have L7 := Lib.hid (LX.out.grown hc7 hg7)
    have HLL := HEND _ _ _ L7
    clear hc7 hg7
    cases r7 with
    | false =>
      go_wp2_with fail
      go_ret
      exact ⟨_, _, rfl, L7.out.ints, by have := L7.out.short; omega, L7.out.below⟩
    | true =>
      go_wp2_with (at_builtin; go_must (refine wp_int rfl _ _ rfl w2.heap.size w7 w7 _ _ 0 _ L7.out.row (Below.refl _ _) L7.out.size HLL.out rfl rfl rfl ?_; intro v1 w8 k1 k2 k3))
      go_ret
      exact ⟨_, _, rfl, lst_snoc k1 L7.out.short L7.out.mem, by have := L7.out.short; rw [List.length_append]; simp <;> omega, L7.out.below.trans (k2.mono (by have := L7.out.low; have := L7.out.lt; omega))⟩
  · by_cases hl0 : l.length = 0
    · obtain rfl : l = [] := List.eq_nil_of_length_eq_zero hl0
      clear hl0
      go_wp2_with fail
      have LX := L3
      refine (Draw.once b _ len 14 (by omega) _ LX.out.cur (LX.out.src HC.out)).mono ?_
      rintro e w7 ⟨r7, rfl, hc7, hg7⟩
      have L7 := Lib.hid (LX.out.grown hc7 hg7)
      have HLL := HEND _ _ _ L7
      clear hc7 hg7
      cases r7 with
      | false =>
        go_wp2_with fail
        go_ret
        exact ⟨_, _, rfl, L7.out.ints, by have := L7.out.short; omega, L7.out.below⟩
      | true =>
        go_wp2_with (at_builtin; go_must (refine wp_int rfl _ _ rfl w2.heap.size w7 w7 _ _ 0 _ L7.out.row (Below.refl _ _) L7.out.size HLL.out rfl rfl rfl ?_; intro v1 w8 k1 k2 k3))
        go_ret
        exact ⟨_, _, rfl, lst_snoc k1 L7.out.short L7.out.mem, by have := L7.out.short; rw [List.length_append]; simp <;> omega, L7.out.below.trans (k2.mono (by have := L7.out.low; have := L7.out.lt; omega))⟩
    · have hpos : (0 : Int) < (l.length : Int) := by omega
      have h32 : (l.length : Int) ≤ 32 := by have := L3.out.short; omega
      go_wp2_with fail
      refine (Draw.once b _ len 4 (by omega) _ L3.out.cur (L3.out.src HC.out)).mono ?_
      rintro e w4 ⟨r4, rfl, hc4, hg4⟩
      have L4 := Lib.hid (L3.out.grown hc4 hg4)
      clear hc4 hg4
      cases r4 with
      | false =>
        go_wp2_with fail
        have LX := L4
        refine (Draw.once b _ len 14 (by omega) _ LX.out.cur (LX.out.src HC.out)).mono ?_
        rintro e w7 ⟨r7, rfl, hc7, hg7⟩
        have L7 := Lib.hid (LX.out.grown hc7 hg7)
        have HLL := HEND _ _ _ L7
        clear hc7 hg7
        cases r7 with
        | false =>
          go_wp2_with fail
          go_ret
          exact ⟨_, _, rfl, L7.out.ints, by have := L7.out.short; omega, L7.out.below⟩
        | true =>
          go_wp2_with (at_builtin; go_must (refine wp_int rfl _ _ rfl w2.heap.size w7 w7 _ _ 0 _ L7.out.row (Below.refl _ _) L7.out.size HLL.out rfl rfl rfl ?_; intro v1 w8 k1 k2 k3))
          go_ret
          exact ⟨_, _, rfl, lst_snoc k1 L7.out.short L7.out.mem, by have := L7.out.short; rw [List.length_append]; simp <;> omega, L7.out.below.trans (k2.mono (by have := L7.out.low; have := L7.out.lt; omega))⟩
      | true =>
        go_wp2_with fail
        refine (Cur.below b _ len (l.length : Int) (by omega) _ L4.out.cur (L4.out.src HC.out)).mono ?_
        rintro e w5 ⟨x, rfl, ⟨hx0, hx1, _⟩, hc5, hg5⟩
        have hxl : x < (l.length : Int) := hx1 (by omega)
        obtain ⟨j, rfl⟩ := Int.eq_ofNat_of_zero_le hx0
        have L5 := Lib.hid (L4.out.grown hc5 hg5)
        have L5a := Lib.hid (L5.out.alloc (.cells (pickL.map (Value.int .i64)).toArray 3))
        clear hc5 hg5 hx1
        go_wp2_with fail
        refine (Cur.pickInt b _ len _ pickL _ L5a.out.cur (L5a.out.src HC.out) (intsNew w5 b L5.out.cur.lt pickL _ (by decide) (by decide))).mono ?_
        rintro e w6 ⟨y, rfl, ⟨i, hi, rfl⟩, hc6, hg6⟩
        have HY := Lib.hid (pickL_in i hi)
        have L6 := Lib.hid (L5a.out.grown hc6 hg6)
        generalize pickL.getD i 0 = y at HY ⊢
        have hcell := IntRow.cell L6.out.row j (by omega)
        have hfree := IntRow.free L6.out.row j
        have LX := Lib.hid (L6.out.set j y HY.out)
        have hset : (l.set j y).length = l.length := List.length_set
        generalize l.getD j 0 = old at hcell
        generalize l.set j y = l2 at *
        clear hc6 hg6 hi
        go_wp2_with fail
        refine (Draw.once b _ len 14 (by omega) _ LX.out.cur (LX.out.src HC.out)).mono ?_
        rintro e w7 ⟨r7, rfl, hc7, hg7⟩
        have L7 := Lib.hid (LX.out.grown hc7 hg7)
        have HLL := HEND _ _ _ L7
        clear hc7 hg7
        cases r7 with
        | false =>
          go_wp2_with fail
          go_ret
          exact ⟨_, _, rfl, L7.out.ints, by have := L7.out.short; omega, L7.out.below⟩
        | true =>
          go_wp2_with (at_builtin; go_must (refine wp_int rfl _ _ rfl w2.heap.size w7 w7 _ _ 0 _ L7.out.row (Below.refl _ _) L7.out.size HLL.out rfl rfl rfl ?_; intro v1 w8 k1 k2 k3))
          go_ret
          exact ⟨_, _, rfl, lst_snoc k1 L7.out.short L7.out.mem, by have := L7.out.short; rw [List.length_append]; simp <;> omega, L7.out.below.trans (k2.mono (by have := L7.out.low; have := L7.out.lt; omega))⟩

end Go.Proofs.YtphjaggiddjhgaaGreatDoor

namespace Go.Proofs.YtphjaggiddjhgaaGreatDoor
open Go.RowKit Plain
set_option linter.unusedVariables false
attribute [local go_sem ↓] Go.wp_at_zero Go.wp_at_succ

/-- A number and a string. -/
def NsOut (w : World) (e : Ending) (w' : World) : Prop :=
  ∃ (n : Int) (t : ByteArray), e = .returned (.tuple #[.int .i64 n, .string t]) ∧ Below w.heap.size w w'
theorem fmT_len (n a : Int) : (fmT n a).length ≤ 113 := by
  cases h : isT n a with
  | false => rw [fmT_no h]; decide
  | true =>
    obtain ⟨n, a, rfl, rfl, hn, ha⟩ := isT_nat h
    rw [fmT_yes h]
    exact fmA_len hn
def listA : List ByteArray := [⟨#[]⟩, ⟨#[48]⟩, ⟨#[49]⟩, ⟨#[97, 43, 49]⟩, ⟨#[49, 43, 97]⟩, ⟨#[97, 43, 97]⟩, ⟨#[33, 97]⟩, ⟨#[49, 43, 97, 98, 43, 98]⟩, ⟨#[49, 43, 98, 43, 97, 98]⟩]
theorem listA_in : ∀ j, j < listA.length → ((listA.getD j ⟨#[]⟩).size : Int) ≤ 360 := by
  intro j hj
  have hj9 : j < 9 := hj
  rcases (show j = 0 ∨ j = 1 ∨ j = 2 ∨ j = 3 ∨ j = 4 ∨ j = 5 ∨ j = 6 ∨ j = 7 ∨ j = 8 by omega) with rfl | rfl | rfl | rfl | rfl | rfl | rfl | rfl | rfl <;> (unfold listA; decide)

set_option maxRecDepth 100000 in
set_option maxHeartbeats 2000000 in
theorem Draw.paf (av : Value) (len : Nat) (w : World) (hc : CodeIn w av len) :
    Calls Tryz.prog 23 #[av] w (NsOut w) := by
  have HC := Lib.hid hc
  obtain ⟨ad, cap, rfl, _, _⟩ := hc
  go_enter Tryz.func23, Tryz.ntmps23
  go_wp2_with fail
  refine (Cur.new _ len _ HC.out).mono ?_
  rintro e w1 ⟨b, rfl, hb, hc1, hs1, hb1⟩
  have HBN := Lib.hid hb
  have B1 := Lib.hid hb1
  have C1 := Lib.hid hc1
  have S1 := Lib.hid hs1
  clear hb hc1 hs1 hb1
  go_wp2_with fail
  refine (Draw.any b _ len _ C1.out S1.out).mono ?_
  rintro e w2 ⟨n, a, rfl, hn, ha, hc2, hg2⟩
  have B2 := Lib.hid ((grownNew B1.out hg2 HBN.out).alloc (by have := (grownNew B1.out hg2 HBN.out).size; omega) (.cells #[.int .i64 n, .int .i64 a] 25))
  have C2 := Lib.hid (hc2.alloc (.cells #[.int .i64 n, .int .i64 a] 25))
  clear hn ha hc2 hg2
  go_wp2_with fail
  refine (Fm.model n a _).mono ?_
  rintro e w3 ⟨rfl, hb3⟩
  have k0 : w3.cell? ⟨w2.heap.size, 0, none⟩ = some (.int .i64 n) := keepB hb3 (keepN rfl rfl)
  have C3 := Lib.hid (C2.out.below hb3 C2.out.lt)
  have B3 := Lib.hid (B2.out.trans (hb3.mono B2.out.size))
  have S3 := Lib.hid (srcNew HC.out B3.out HBN.out)
  have hsz : ((⟨(fmT n a).toArray⟩ : ByteArray).size : Int) ≤ 120 := by
    have := fmT_len n a
    show (((fmT n a).toArray.size : Nat) : Int) ≤ 120
    simp; omega
  generalize (⟨(fmT n a).toArray⟩ : ByteArray) = s at hsz ⊢
  clear hb3
  go_wp2_with fail
  all_goals
    refine (Cur.below b _ len 4 (by omega) _ C3.out S3.out).mono ?_
    rintro e w4 ⟨x, rfl, ⟨hx0, hx4, _⟩, hc4, hg4⟩
    have hx : x < 4 := hx4 (by omega)
    have C4 := Lib.hid hc4
    have B4 := Lib.hid (grownNew B3.out hg4 HBN.out)
    have S4 := Lib.hid (S3.out.grown hg4)
    clear hc4 hg4 hx4
    by_cases hx' : x = 0
    · subst hx'
      go_wp2_with fail
      refine (Draw.spoil b _ len s hsz _ C4.out S4.out).mono ?_
      rintro e w5 ⟨t, rfl, ht, hc5, hg5⟩
      have B5 := Lib.hid (grownNew B4.out hg5 HBN.out)
      clear ht hc5 hg5
      go_wp2
      go_ret2
      exact ⟨_, t, rfl, B5.out⟩
    · have t0 : (x == 0) = false := by rw [beq_eq_false_iff_ne]; exact hx'
      by_cases hx1 : x = 1
      · subst hx1
        go_wp2_with fail
        refine (Cur.pick b _ len _ listA listA_in _ (C4.out.alloc _) (S4.out.grown (World.grownBy_alloc _ _ _)) (strsNew w4 b C4.out.lt listA _ (by decide) (by decide))).mono ?_
        rintro e w5 ⟨t, rfl, ht, hc5, hg5⟩
        have B5 := Lib.hid (grownNew (bA B4.out.size B4.out) hg5 HBN.out)
        clear ht hc5 hg5
        go_wp2
        go_ret2
        exact ⟨_, t, rfl, B5.out⟩
      · have t1 : (x == 1) = false := by rw [beq_eq_false_iff_ne]; exact hx1
        go_wp2
        go_ret2
        exact ⟨_, s, rfl, B4.out⟩

end Go.Proofs.YtphjaggiddjhgaaGreatDoor
