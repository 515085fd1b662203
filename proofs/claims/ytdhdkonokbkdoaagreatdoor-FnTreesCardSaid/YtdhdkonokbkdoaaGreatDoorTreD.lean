/-
  Chapter 7: the model's draws of trees.
-/
import Derived.Test.YtdhdkonokbkdoaaGreatDoorDrawR
import Derived.Test.YtdhdkonokbkdoaaGreatDoorBtN
namespace Go.Proofs.YtdhdkonokbkdoaaGreatDoor
open Go.RowKit Plain
set_option linter.unusedVariables false
attribute [local go_sem ↓] Go.wp_at_zero Go.wp_at_succ

def listS7 : List ByteArray := [⟨#[]⟩, ⟨#[97, 48, 49]⟩, ⟨#[97, 97, 48, 49, 48]⟩, ⟨#[97, 48]⟩, ⟨#[48]⟩, ⟨#[97, 98, 48, 49, 99, 49, 48]⟩, ⟨#[102, 48, 49]⟩]
theorem listS7_in : ∀ j, j < listS7.length → ((listS7.getD j ⟨#[]⟩).size : Int) ≤ 300 := by
  intro j hj
  have hj5 : j < 7 := hj
  rcases (show j = 0 ∨ j = 1 ∨ j = 2 ∨ j = 3 ∨ j = 4 ∨ j = 5 ∨ j = 6 by omega) with rfl | rfl | rfl | rfl | rfl | rfl | rfl <;> decide
def listT7 : List Int := [4, 4, 5, 3, 0, -1, 6]
theorem listT7_in : ∀ j, j < listT7.length → In64 (listT7.getD j 0) := by
  intro j hj
  have hj5 : j < 7 := hj
  rcases (show j = 0 ∨ j = 1 ∨ j = 2 ∨ j = 3 ∨ j = 4 ∨ j = 5 ∨ j = 6 by omega) with rfl | rfl | rfl | rfl | rfl | rfl | rfl <;> (unfold In64 listT7; decide)
def listA7 : List Int := [4, 4, 5, 3, 0, -1]
theorem listA7_in : ∀ j, j < listA7.length → In64 (listA7.getD j 0) := by
  intro j hj
  have hj5 : j < 6 := hj
  rcases (show j = 0 ∨ j = 1 ∨ j = 2 ∨ j = 3 ∨ j = 4 ∨ j = 5 by omega) with rfl | rfl | rfl | rfl | rfl | rfl <;> (unfold In64 listA7; decide)

/-- What the model's BestTree answers, as a string and a bool. -/
theorem btV_str (n a : Int) : ∃ (s : ByteArray) (r : Bool), btV n a = .tuple #[.string s, .bool r] ∧ (s.size : Int) ≤ 100 := by
  cases h : btB n a with
  | false => exact ⟨_, _, btV_no h, by decide⟩
  | true =>
    obtain ⟨m, x, rfl, rfl, hm, hx, _⟩ := btB_yes h
    refine ⟨_, _, btV_yes h, ?_⟩
    have h1 := bst_len m x (List.range m)
    have h2 : 2 ^ (m + 1) ≤ 2 ^ 5 := Nat.pow_le_pow_right (by decide) (by omega)
    show (((txtD (bst m x (List.range m))).toArray.size : Nat) : Int) ≤ 100
    simp
    omega

set_option maxRecDepth 100000 in
set_option maxHeartbeats 2000000 in
/-- l7Any. -/
theorem Draw.tree (b : Nat) (av : Value) (len : Nat) (w : World) (hc : CurAt w b av len) (hs : SrcAt w b av len) :
    Calls Tryz.prog 46 #[.pointer (some ⟨b, 0, none⟩)] w (StrOut b av len w) := by
  have HS := Lib.hid hs
  have HC := Lib.hid hc
  have hbl := hc.lt
  clear hc hs
  go_enter Tryz.func46, Tryz.ntmps46
  go_wp2_with fail
  refine (Draw.any b av len _ HC.out HS.out).mono ?_
  rintro e w1 ⟨n, a, rfl, hn, ha, hc1, hg1⟩
  have C1 := Lib.hid hc1
  have S1 := Lib.hid (HS.out.grown hg1)
  have G1 := Lib.hid hg1
  have hs1 := hg1.size
  have hbl1 : b < w1.heap.size := by omega
  have HM0 := Lib.hid (Bst.model n a)
  obtain ⟨s, r, hst, hsz⟩ := btV_str n a
  rw [hst] at HM0
  have HM := Lib.hid HM0.out
  clear hn ha hc1 hg1 HM0 hst
  go_wp2_with fail
  refine (HM.out _).mono ?_
  rintro e w2 ⟨rfl, hb2⟩
  have C2 := Lib.hid (C1.out.below hb2 hbl1)
  have S2 := Lib.hid (S1.out.grown (grownAny hb2 (some b)))
  have G2 := Lib.hid (grownTrans G1.out (grownAny hb2 (some b)))
  clear hb2
  cases r with
  | false =>
    go_wp2_with fail
    refine (Cur.pick b _ len _ listS7 listS7_in _ (C2.out.alloc _) (S2.out.grown (World.grownBy_alloc _ _ _)) (strsNew w2 b C2.out.lt listS7 _ (by decide) (by decide))).mono ?_
    rintro e w3 ⟨t, rfl, ht, hc3, hg3⟩
    have HT := Lib.hid ht
    have C3 := Lib.hid hc3
    have G3 := Lib.hid (grownTrans (grownAlloc G2.out _) hg3)
    clear ht hc3 hg3
    go_wp2
    go_ret
    exact ⟨t, rfl, HT.out, C3.out, G3.out⟩
  | true =>
    go_wp2_with fail
    refine (Draw.once b _ len 10 (by omega) _ C2.out S2.out).mono ?_
    rintro e w3 ⟨q, rfl, hc3, hg3⟩
    have C3 := Lib.hid hc3
    have S3 := Lib.hid (S2.out.grown hg3)
    have G3 := Lib.hid (grownTrans G2.out hg3)
    clear hc3 hg3
    cases q with
    | false =>
      go_wp2
      go_ret
      exact ⟨s, rfl, by omega, C3.out, G3.out⟩
    | true =>
      go_wp2_with fail
      refine (Draw.spoil b _ len s hsz _ C3.out S3.out).mono ?_
      rintro e w4 ⟨t, rfl, ht, hc4, hg4⟩
      have HT := Lib.hid ht
      have C4 := Lib.hid hc4
      have G4 := Lib.hid (grownTrans G3.out hg4)
      clear ht hc4 hg4
      go_wp2
      go_ret
      exact ⟨t, rfl, HT.out, C4.out, G4.out⟩

/-- A text and a number. -/
def SnOut (w : World) (e : Ending) (w' : World) : Prop :=
  ∃ (t : ByteArray) (n : Int), e = .returned (.tuple #[.string t, .int .i64 n]) ∧ (t.size : Int) ≤ 300 ∧ In64 n ∧ Below w.heap.size w w'

set_option maxRecDepth 100000 in
set_option maxHeartbeats 2000000 in
theorem Draw.tot (av : Value) (len : Nat) (w : World) (hc : CodeIn w av len) :
    Calls Tryz.prog 17 #[av] w (SnOut w) := by
  have HC := Lib.hid hc
  obtain ⟨ad, cap, rfl, _, _⟩ := hc
  go_enter Tryz.func17, Tryz.ntmps17
  go_wp2_with fail
  refine (Cur.new _ len _ HC.out).mono ?_
  rintro e w1 ⟨b, rfl, hb, hc1, hs1, hb1⟩
  have HBN := Lib.hid hb
  have B1 := Lib.hid hb1
  have C1 := Lib.hid hc1
  have S1 := Lib.hid hs1
  clear hb hc1 hs1 hb1
  go_wp2_with fail
  refine (Draw.tree b _ len _ C1.out S1.out).mono ?_
  rintro e w2 ⟨t, rfl, ht, hc2, hg2⟩
  have HT := Lib.hid ht
  have C2 := Lib.hid hc2
  have S2 := Lib.hid (S1.out.grown hg2)
  have B2 := Lib.hid (grownNew B1.out hg2 HBN.out)
  clear ht hc2 hg2
  go_wp2_with fail
  refine (Cur.pickInt b _ len _ listT7 _ (C2.out.alloc _) (S2.out.alloc _) (intsNew w2 b C2.out.lt listT7 _ (by decide) (by decide))).mono ?_
  rintro e w3 ⟨y, rfl, hy, hc3, hg3⟩
  obtain ⟨j, hj, rfl⟩ := hy
  have HJ := Lib.hid (listT7_in j hj)
  generalize listT7.getD j 0 = y at HJ ⊢
  have B3 := Lib.hid (grownNew (B2.out.alloc B2.out.size _) hg3 HBN.out)
  clear hc3 hg3 hj
  go_wp2
  go_ret2
  exact ⟨t, y, rfl, HT.out, HJ.out, B3.out⟩

set_option maxRecDepth 100000 in
set_option maxHeartbeats 2000000 in
theorem Draw.avg (av : Value) (len : Nat) (w : World) (hc : CodeIn w av len) :
    Calls Tryz.prog 20 #[av] w (SnOut w) := by
  have HC := Lib.hid hc
  obtain ⟨ad, cap, rfl, _, _⟩ := hc
  go_enter Tryz.func20, Tryz.ntmps20
  go_wp2_with fail
  refine (Cur.new _ len _ HC.out).mono ?_
  rintro e w1 ⟨b, rfl, hb, hc1, hs1, hb1⟩
  have HBN := Lib.hid hb
  have B1 := Lib.hid hb1
  have C1 := Lib.hid hc1
  have S1 := Lib.hid hs1
  clear hb hc1 hs1 hb1
  go_wp2_with fail
  refine (Draw.tree b _ len _ C1.out S1.out).mono ?_
  rintro e w2 ⟨t, rfl, ht, hc2, hg2⟩
  have HT := Lib.hid ht
  have C2 := Lib.hid hc2
  have S2 := Lib.hid (S1.out.grown hg2)
  have B2 := Lib.hid (grownNew B1.out hg2 HBN.out)
  clear ht hc2 hg2
  go_wp2_with fail
  refine (Cur.pickInt b _ len _ listA7 _ (C2.out.alloc _) (S2.out.alloc _) (intsNew w2 b C2.out.lt listA7 _ (by decide) (by decide))).mono ?_
  rintro e w3 ⟨y, rfl, hy, hc3, hg3⟩
  obtain ⟨j, hj, rfl⟩ := hy
  have HJ := Lib.hid (listA7_in j hj)
  generalize listA7.getD j 0 = y at HJ ⊢
  have B3 := Lib.hid (grownNew (B2.out.alloc B2.out.size _) hg3 HBN.out)
  clear hc3 hg3 hj
  go_wp2
  go_ret2
  exact ⟨t, y, rfl, HT.out, HJ.out, B3.out⟩

set_option maxRecDepth 100000 in
set_option maxHeartbeats 2000000 in
theorem Draw.qu (av : Value) (len : Nat) (w : World) (hc : CodeIn w av len) :
    Calls Tryz.prog 19 #[av] w (SnOut w) := by
  have HC := Lib.hid hc
  obtain ⟨ad, cap, rfl, _, _⟩ := hc
  go_enter Tryz.func19, Tryz.ntmps19
  go_wp2_with fail
  refine (Cur.new _ len _ HC.out).mono ?_
  rintro e w1 ⟨b, rfl, hb, hc1, hs1, hb1⟩
  have HBN := Lib.hid hb
  have B1 := Lib.hid hb1
  have C1 := Lib.hid hc1
  have S1 := Lib.hid hs1
  clear hb hc1 hs1 hb1
  go_wp2_with fail
  refine (Draw.tree b _ len _ C1.out S1.out).mono ?_
  rintro e w2 ⟨t, rfl, ht, hc2, hg2⟩
  have HT := Lib.hid ht
  have C2 := Lib.hid hc2
  have S2 := Lib.hid (S1.out.grown hg2)
  have B2 := Lib.hid (grownNew B1.out hg2 HBN.out)
  clear ht hc2 hg2
  go_wp2_with fail
  refine (Cur.below b _ len 34 (by omega) _ C2.out S2.out).mono ?_
  rintro e w3 ⟨y, rfl, ⟨hy0, hy1, _⟩, hc3, hg3⟩
  have hy : y < 34 := hy1 (by omega)
  have B3 := Lib.hid (grownNew B2.out hg3 HBN.out)
  clear hc3 hg3 hy1
  go_wp2
  go_ret2
  exact ⟨t, _, rfl, HT.out, by unfold In64; omega, B3.out⟩

set_option maxRecDepth 100000 in
set_option maxHeartbeats 2000000 in
theorem Draw.best (av : Value) (len : Nat) (w : World) (hc : CodeIn w av len) :
    Calls Tryz.prog 5 #[av] w (fun e w' => ∃ n a : Int, e = .returned (.agg #[.int .i64 n, .int .i64 a]) ∧ In64 n ∧ In64 a ∧ Below w.heap.size w w') := by
  have HC := Lib.hid hc
  obtain ⟨ad, cap, rfl, _, _⟩ := hc
  go_enter Tryz.func5, Tryz.ntmps5
  go_wp2_with fail
  have BA := Lib.hid ((Below.refl w.heap.size w).alloc (Nat.le_refl _) (.cells #[.int .i64 0, .int .i64 0] 25))
  refine (Cur.new _ len _ (HC.out.below BA.out)).mono ?_
  rintro e w1 ⟨b, rfl, hb, hc1, hs1, hb1⟩
  simp only [World.size_alloc] at hb
  have HBN : Hid (w.heap.size ≤ b) := Lib.hid (by omega)
  have B1 := Lib.hid (BA.out.trans (hb1.mono (by simp)))
  have X1 := Lib.hid ((hb1.block w.heap.size (by simp)).trans (heap_alloc_new w _))
  have C1 := Lib.hid hc1
  have S1 := Lib.hid hs1
  have hbne : b ≠ w.heap.size := by omega
  have HBE := Lib.hid hbne
  clear hc1 hs1 hb1 hbne
  go_wp2_with fail
  refine (Draw.any b _ len _ C1.out S1.out).mono ?_
  rintro e w2 ⟨n, a, rfl, hn, ha, hc2, hg2⟩
  have NN := Lib.hid hn
  have AA := Lib.hid ha
  have B2 := Lib.hid (grownNew B1.out hg2 HBN.out)
  have x2 := blockOver X1.out hg2 (by have := HBE.out; omega)
  obtain ⟨z0, z1, g0, g1⟩ := cells2 x2
  have hs2 : w.heap.size < w2.heap.size := lt_of_block x2
  clear hn ha hc2 hg2 x2
  go_wp2
  obtain ⟨k0, k1⟩ := keepT (Y := w2) (g := w.heap.size) (u := .int .i64 n) (v := .int .i64 a) z0 z1
  exact bodyPost_ret (v := .agg #[.int .i64 n, .int .i64 a]) (by simp [results, Tryz.results5, go_sem, k0, k1]) rfl ⟨n, a, rfl, NN.out, AA.out, bS (Nat.le_refl _) (bS (Nat.le_refl _) B2.out)⟩

end Go.Proofs.YtdhdkonokbkdoaaGreatDoor
