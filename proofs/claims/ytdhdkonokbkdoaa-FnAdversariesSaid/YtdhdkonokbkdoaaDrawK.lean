/-
  What is drawn from a code for PermuteTable: a table and a list.
-/
import Derived.Test.YtdhdkonokbkdoaaDrawI
import Derived.Test.YtdhdkonokbkdoaaRowB
namespace Go.Proofs.Ytdhdkonokbkdoaa
open Go.RowKit Plain
set_option linter.unusedVariables false

/-- A table and a list. -/
def ListOut (w : World) (e : Ending) (w' : World) : Prop :=
  ∃ n a : Int, ∃ ad cl cap, ∃ l : List Int, e = .returned (.tuple #[.agg #[.int .i64 n, .int .i64 a], .slice ad cl cap]) ∧ In64 n ∧ In64 a ∧ l.length ≤ 7 ∧ IntsIn w' (.slice ad cl cap) l ∧ Below w.heap.size w w'

/-- The same, and the list is new memory. -/
def ListNew (w : World) (e : Ending) (w' : World) : Prop :=
  ∃ n a : Int, ∃ g cap : Nat, ∃ l : List Int, e = .returned (.tuple #[.agg #[.int .i64 n, .int .i64 a], .slice (some ⟨g, 0, none⟩) l.length cap]) ∧ In64 n ∧ In64 a ∧ l.length ≤ 7 ∧ IntsIn w' (.slice (some ⟨g, 0, none⟩) l.length cap) l ∧ w.heap.size < g ∧ Below w.heap.size w w'
theorem ListNew.out {w w' : World} {e : Ending} (h : ListNew w e w') : ListOut w e w' := by
  obtain ⟨n, a, g, cap, l, h1, h2, h3, h4, h5, _, h7⟩ := h
  exact ⟨n, a, _, _, cap, l, h1, h2, h3, h4, h5, h7⟩

theorem RowAt.most {w : World} {B g cap : Nat} {l : List Int} (h : RowAt w B g cap l) : (cap : Int) ≤ 9223372036854775807 := by
  rcases h.1.2 with ⟨hv, _⟩ | ⟨g', cap', cur, hv, _, _, _, hm, _⟩
  · cases hv
  · cases hv
    unfold maxLen at hm
    omega

def All64 (l : List Int) : Prop := ∀ x ∈ l, In64 x
theorem RowAt.base {w : World} {B C g cap : Nat} {l : List Int} (h : RowAt w B g cap l) (hC : C ≤ B) : RowAt w C g cap l := ⟨h.1.base hC, h.2⟩
theorem RowAt.over {w w' : World} {B g cap b : Nat} {l : List Int} (h : RowAt w B g cap l) (hg : w.grownBy w' (some b)) (hne : b < B) : RowAt w' B g cap l :=
  ⟨h.1.kept hg (.inr (by have := h.lt; simp [Value.ownBlock]; omega)), h.2⟩
theorem RowAt.alloc {w : World} {B g cap : Nat} {l : List Int} (h : RowAt w B g cap l) (o : Obj) : RowAt (w.alloc o) B g cap l := ⟨h.1.alloc o, h.2⟩
theorem RowAt.drew {w : World} {B g cap : Nat} {l : List Int} (h : RowAt w B g cap l) : RowAt w.drew B g cap l := h

theorem oneOver {X w' : World} {L g : Nat} {x : Int} (hg : X.grownBy w' (some g)) (hc : X.cell? ⟨L, 0, none⟩ = some (.int .i64 x)) (hne : L ≠ g) : ∀ j, j < 1 → w'.cell? ⟨L, 0 + j, none⟩ = some (.int .i64 ([x].getD j 0)) := by
  intro j hj
  obtain rfl : j = 0 := by omega
  exact hg.cell hc (by simpa using hne)
theorem oneCell (w : World) (x : Int) : ∀ j, j < 1 → (w.alloc (.cells #[.int .i64 x] 3)).cell? ⟨w.heap.size, 0 + j, none⟩ = some (.int .i64 ([x].getD j 0)) := by
  intro j hj
  obtain rfl : j = 0 := by omega
  exact keepN rfl rfl

theorem listEnd {w wr : World} {n a : Int} {g cp B : Nat} {l : List Int} {u v : Value} (hn : In64 n) (ha : In64 a) (hl : l.length ≤ 7) (hall : All64 l) (hrow : RowAt wr B g cp l) (hne : w.heap.size < B) (hb : Below w.heap.size w wr) :
    ListNew w (.returned (.tuple #[.agg #[.int .i64 n, .int .i64 a], .slice (some ⟨g, 0, none⟩) l.length cp])) ((wr.setCell ⟨w.heap.size, 0, none⟩ u).setCell ⟨w.heap.size, 1, none⟩ v) := by
  have hB := hrow.lt
  have r1 := (hrow.1.kept (grownSet wr w.heap.size 0 u) (.inr (by simp [Value.ownBlock]; omega))).kept (grownSet _ w.heap.size 1 v) (.inr (by simp [Value.ownBlock]; omega))
  exact ⟨n, a, _, _, l, rfl, hn, ha, hl, r1.ints (by omega) hall, by omega, bS (Nat.le_refl _) (bS (Nat.le_refl _) hb)⟩

def list2 : List Int := [-1, 0, 5, 9223372036854775807]
theorem list2_in : ∀ j, j < list2.length → In64 (list2.getD j 0) := by
  intro j hj
  have hj5 : j < 4 := hj
  rcases (show j = 0 ∨ j = 1 ∨ j = 2 ∨ j = 3 by omega) with rfl | rfl | rfl | rfl <;> (unfold In64 list2; decide)

set_option maxRecDepth 100000 in
set_option maxHeartbeats 8000000 in
theorem Draw.permuteN (av : Value) (len : Nat) (w : World) (hc : CodeIn w av len) :
    Calls Try.prog 29 #[av] w (ListNew w) := by
  have HC := Lib.hid hc
  obtain ⟨ad, cap, rfl, _, _⟩ := hc
  go_enter Try.func29, Try.ntmps29
  go_wp2_with fail
  have BA := Lib.hid ((Below.refl w.heap.size w).alloc (Nat.le_refl _) (.cells #[.int .i64 0, .int .i64 0] 25))
  refine (Cur.new _ len _ (HC.out.below BA.out)).mono ?_
  rintro e w1 ⟨b, rfl, hb, hc1, hs1, hb1⟩
  simp only [World.size_alloc] at hb
  have HBN : Hid (w.heap.size ≤ b) := Lib.hid (by omega)
  have B1 := Lib.hid (BA.out.trans (hb1.mono (by simp)))
  have X1 := Lib.hid ((hb1.block w.heap.size (by simp)).trans (heap_alloc_new w _))
  have C1 := Lib.hid hc1
  have S1 := Lib.hid hs1
  have HBE : Hid (b ≠ w.heap.size) := Lib.hid (by omega)
  clear hc1 hs1 hb1
  go_wp2_with fail
  refine (Draw.any b _ len _ C1.out S1.out).mono ?_
  rintro e w2 ⟨n, a, rfl, hn, ha, hc2, hg2⟩
  have hs2 := hg2.size
  have NN := Lib.hid hn
  have AA := Lib.hid ha
  have nb1 := hn.1
  have nb2 := hn.2
  have B2 := Lib.hid (((grownNew B1.out hg2 HBN.out).alloc (by have := B1.out.size; omega) (.cells #[.int .i64 n, .int .i64 a] 25)).alloc (by have := B1.out.size; simp; omega) (.cells #[] 3))
  have X2 := Lib.hid (blockAlloc (blockAlloc (blockOver X1.out hg2 (by have := HBE.out; omega)) (.cells #[.int .i64 n, .int .i64 a] 25)) (.cells #[] 3))
  have F2 := Lib.hid (blockAlloc (heap_alloc_new w2 (.cells #[.int .i64 n, .int .i64 a] 25)) (.cells #[] 3))
  have C2 := Lib.hid ((hc2.alloc (.cells #[.int .i64 n, .int .i64 a] 25)).alloc (.cells #[] 3))
  have S2 := Lib.hid (((S1.out.grown hg2).alloc (.cells #[.int .i64 n, .int .i64 a] 25)).alloc (.cells #[] 3))
  have HBF : Hid (b < w2.heap.size) := Lib.hid hc2.lt
  have R2 := Lib.hid (rowLit (w2.alloc (.cells #[.int .i64 n, .int .i64 a] 25)) (w2.heap.size + 1) (w2.heap.size + 1) [] (by simp) (Nat.le_refl _) (by decide))
  have hs2' : w.heap.size < w2.heap.size := by have := lt_of_block X1.out; omega
  clear hn ha hc2 hg2
  go_wp2_with fail
  go_loopw [6, 7, 8] (fun p i _ wr => ∃ (i' g cp : Nat) (l : List Int), i = .int .i64 (i' : Int) ∧ p = .slice (some ⟨g, 0, none⟩) i' cp ∧ i' ≤ 6 ∧ l.length = i' ∧ All64 l ∧ RowAt wr (w2.heap.size + 1) g cp l ∧ CurAt wr b (.slice ad len cap) len ∧ SrcAt wr b (.slice ad len cap) len ∧ wr.heap[w.heap.size]? = some (.cells #[.int .i64 0, .int .i64 0] 25 (0, 0)) ∧ wr.heap[w2.heap.size]? = some (.cells #[.int .i64 n, .int .i64 a] 25 (0, 0)) ∧ Below w.heap.size w wr) (fun _ i _ _ => 6 - (intOf i).toNat)
  case atStart => exact ⟨0, w2.heap.size + 1, 0, [], rfl, rfl, by omega, rfl, (by intro x hx; cases hx), R2.out, C2.out, S2.out, X2.out, F2.out, B2.out⟩
  case round =>
    obtain ⟨i, g, cp, l, rfl, rfl, hi6, hli, hall, hrow, hcr, hsr, hxr, hfr, hbr⟩ := hrel
    obtain ⟨f0, f1, _, _⟩ := cells2 hfr
    have hszr : w2.heap.size < wr.heap.size := lt_of_block hfr
    have RR := Lib.hid hrow
    have CR := Lib.hid hcr
    have SR := Lib.hid hsr
    have XR := Lib.hid hxr
    have FR := Lib.hid hfr
    have BR := Lib.hid hbr
    have LL := Lib.hid hli
    have AL := Lib.hid hall
    have hcp : i ≤ cp := by have := hrow.2; omega
    have hgb := hrow.lt
    clear hrow hcr hsr hxr hfr hbr hli hall
    by_cases hlt : (i : Int) < n ∧ (i : Int) < 6
    · obtain ⟨hl1, hl2⟩ := hlt
      rcases (show n < 6 ∨ 6 ≤ n by omega) with h6 | h6
      all_goals (go_wp2_with fail)
      all_goals
        refine (Cur.below b _ len _ (by omega) _ CR.out SR.out).mono ?_
        rintro e w3 ⟨k', rfl, ⟨hk0, hk1, _⟩, hc3, hg3⟩
        have hk2 := hk1 (by omega)
        obtain ⟨k, rfl⟩ := Int.eq_ofNat_of_zero_le hk0
        have hki : k ≤ i := by omega
        have R3 := Lib.hid (RR.out.over hg3 (by have := HBF.out; omega))
        have C3 := Lib.hid hc3
        have S3 := Lib.hid (SR.out.grown hg3)
        have X3 := Lib.hid (blockOver XR.out hg3 (by have := HBE.out; omega))
        have F3 := Lib.hid (blockOver FR.out hg3 (by have := HBF.out; omega))
        have B3 := Lib.hid (grownNew BR.out hg3 HBN.out)
        have hs3 := hg3.size
        clear hc3 hg3 hk1
        have hg3 := R3.out.lt
        have hgw : g < w3.heap.size := hg3.2
        have hb3w : b < w3.heap.size := C3.out.lt
        have PT : Hid (∀ W : World, Below w3.heap.size w3 W → ∀ j, j < k → W.cell? ⟨g, 0 + j, none⟩ = some (.int .i64 ((l.take k).getD j 0))) := Lib.hid (fun W hW j hj => by
          rw [Nat.zero_add, hW.cell (p := ⟨g, j, none⟩) hgw, R3.out.cell j (by have := LL.out; omega)]
          congr 2
          simp [List.getD_eq_getElem?_getD, hj])
        have PD : Hid (∀ W : World, Below w3.heap.size w3 W → ∀ j, j < i - k → W.cell? ⟨g, k + j, none⟩ = some (.int .i64 ((l.drop k).getD j 0))) := Lib.hid (fun W hW j hj => by
          rw [hW.cell (p := ⟨g, k + j, none⟩) hgw, R3.out.cell (k + j) (by have := LL.out; omega)]
          congr 2
          simp [List.getD_eq_getElem?_getD])
        have T1 : Hid ((l.take k).length = k) := Lib.hid (by rw [List.length_take]; have := LL.out; omega)
        have T2 : Hid ((l.drop k).length = i - k) := Lib.hid (by rw [List.length_drop]; have := LL.out; omega)
        have hkz : (k : Int) ≤ (i : Int) := by omega
        have hkc : k ≤ cp := by omega
        have hkcz : (k : Int) ≤ (cp : Int) := by omega
        have hcz : (cp : Int) ≤ 9223372036854775807 := R3.out.most
        clear hg3 hgb
        by_cases hck : cp = k
        · obtain rfl : i = k := by omega
          obtain rfl : i = cp := by omega
          have R0 : Hid (RowAt ((w3.alloc (.cells #[] 3)).drew) w3.heap.size w3.heap.size 0 []) := Lib.hid (rowLit w3 w3.heap.size w3.heap.size [] rfl (Nat.le_refl _) (by decide))
          have R02 : Hid (RowAt (((w3.alloc (.cells #[] 3)).alloc (.cells #[.int .i64 (i : Int)] 3)).drew) w3.heap.size w3.heap.size 0 []) := Lib.hid ((rowLit w3 w3.heap.size w3.heap.size [] rfl (Nat.le_refl _) (by decide)).alloc _)
          have R01 : Hid (RowAt (((w3.alloc (.cells #[.int .i64 (i : Int)] 3)).alloc (.cells #[] 3)).drew) w3.heap.size (w3.heap.size + 1) 0 []) := Lib.hid (rowLit (w3.alloc (.cells #[.int .i64 (i : Int)] 3)) w3.heap.size (w3.heap.size + 1) [] (by simp) (by omega) (by decide))
          have LC2 : Hid ((((w3.alloc (.cells #[] 3)).alloc (.cells #[.int .i64 (i : Int)] 3)).drew).cell? ⟨w3.heap.size + 1, 0, none⟩ = some (.int .i64 (i : Int))) := Lib.hid (keepN (Y := w3.alloc (.cells #[] 3)) (by simp) rfl)
          have LC1 : Hid ((((w3.alloc (.cells #[.int .i64 (i : Int)] 3)).alloc (.cells #[] 3)).drew).cell? ⟨w3.heap.size, 0, none⟩ = some (.int .i64 (i : Int))) := Lib.hid (keepA (Y := w3.alloc (.cells #[.int .i64 (i : Int)] 3)) (keepN rfl rfl))
          go_wp2_with fail
          go_region_law (first
            | ((with_reducible refine step_ints rfl (.tmp 26) (.tmp 29) rfl w3.heap.size w3 (((w3.alloc (.cells #[] 3)).alloc (.cells #[.int .i64 (i : Int)] 3)).drew) w3.heap.size 0 0 i i [] (l.take i) g 0 i R02.out rfl T1.out (by omega) (bD (bA (by simp) (bA (Nat.le_refl _) (Below.refl _ _)))) (by simp <;> omega) (by omega) rfl rfl (PT.out _ (bD (bA (by simp) (bA (Nat.le_refl _) (Below.refl _ _))))) ?_); intro g1 cap1 w4 r1 n1 b1 gr1; have L32 := Lib.hid (oneOver gr1 LC2.out (by simp)))
            | ((with_reducible refine step_ints rfl (.tmp 26) (.tmp 29) rfl w3.heap.size w3 (((w3.alloc (.cells #[.int .i64 (i : Int)] 3)).alloc (.cells #[] 3)).drew) (w3.heap.size + 1) 0 0 i i [] (l.take i) g 0 i R01.out rfl T1.out (by omega) (bD (bA (by simp) (bA (Nat.le_refl _) (Below.refl _ _)))) (by simp <;> omega) (by omega) rfl rfl (PT.out _ (bD (bA (by simp) (bA (Nat.le_refl _) (Below.refl _ _))))) ?_); intro g1 cap1 w4 r1 n1 b1 gr1; have L32 := Lib.hid (oneOver gr1 LC1.out (by simp)))
            | ((with_reducible refine step_ints rfl (.tmp 30) (.tmp 32) rfl w3.heap.size w3 w4 g1 cap1 i 1 (i + 1) _ [(i : Int)] _ 0 1 r1 n1 rfl rfl b1 b1.size (by omega) rfl rfl L32.out ?_); intro g2 cap2 w5 r2 n2 b2 gr2)
            | ((with_reducible refine step_ints rfl (.tmp 26) (.tmp 29) rfl w3.heap.size w3 ((w3.alloc (.cells #[] 3)).drew) w3.heap.size 0 0 i i [] (l.take i) g 0 i R0.out rfl T1.out (by omega) (bD (bA (Nat.le_refl _) (Below.refl _ _))) (by simp) (by omega) rfl rfl (PT.out _ (bD (bA (Nat.le_refl _) (Below.refl _ _)))) ?_); intro g1 cap1 w4 r1 n1 b1 gr1)
            | ((with_reducible refine step_ints rfl (.tmp 30) (.tmp 32) rfl w3.heap.size w3 (w4.alloc (.cells #[.int .i64 (i : Int)] 3)) g1 cap1 i 1 (i + 1) _ [(i : Int)] w4.heap.size 0 1 (r1.alloc _) n1 rfl rfl (bA b1.size b1) (Nat.le_trans b1.size (by simp)) (by omega) rfl rfl (oneCell w4 i) ?_); intro g2 cap2 w5 r2 n2 b2 gr2)
            | ((with_reducible refine step_ints rfl (.tmp 33) (.tmp 36) rfl w3.heap.size w3 w5 g2 cap2 (i + 1) 0 (i + 1) _ [] g 0 0 r2 n2 rfl (by omega) b2 b2.size (by omega) rfl rfl (fun j hj => absurd hj (Nat.not_lt_zero j)) ?_); intro g3 cap3 w6 r3 n3 b3 gr3))
          all_goals
            have hs6 := b3.size
            have A3 : Hid (All64 (([] ++ l.take i) ++ [(i : Int)] ++ [])) := Lib.hid (by
              intro x hx
              simp only [List.mem_append, List.mem_singleton, List.nil_append] at hx
              rcases hx with (hx | rfl) | hx
              · exact AL.out x (List.mem_of_mem_take hx)
              · unfold In64; omega
              · exact absurd hx List.not_mem_nil)
            have R6 := Lib.hid (r3.base (show w2.heap.size + 1 ≤ w3.heap.size by omega))
            have N6 := Lib.hid n3
            have C6 := Lib.hid (C3.out.below b3 C3.out.lt)
            have S6 := Lib.hid (S3.out.grown (grownAny b3 _))
            have X6 := Lib.hid (blockOn X3.out b3)
            have F6 := Lib.hid (blockOn F3.out b3)
            have B6 := Lib.hid (B3.out.trans (b3.mono B3.out.size))
            clear r1 n1 b1 gr1 r2 n2 b2 gr2 r3 n3 b3 gr3
            go_wp2
            go_roundw
            case rel => first | exact ⟨i + 1, g3, cap3, _, by go_num, rfl, by omega, N6.out, A3.out, R6.out, C6.out, S6.out, X6.out, F6.out, B6.out⟩ | exact ⟨_, ⟨i + 1, g3, cap3, _, by go_num, rfl, by omega, N6.out, A3.out, R6.out, C6.out, S6.out, X6.out, F6.out, B6.out⟩, rfl⟩ | exact ⟨_, _, ⟨i + 1, g3, cap3, _, by go_num, rfl, by omega, N6.out, A3.out, R6.out, C6.out, S6.out, X6.out, F6.out, B6.out⟩, rfl⟩ | exact ⟨_, _, _, ⟨i + 1, g3, cap3, _, by go_num, rfl, by omega, N6.out, A3.out, R6.out, C6.out, S6.out, X6.out, F6.out, B6.out⟩, rfl⟩
            case measure => simp [intOf] <;> omega
        · have R0 : Hid (RowAt ((w3.alloc (.cells #[] 3)).drew) w3.heap.size w3.heap.size 0 []) := Lib.hid (rowLit w3 w3.heap.size w3.heap.size [] rfl (Nat.le_refl _) (by decide))
          have R02 : Hid (RowAt (((w3.alloc (.cells #[] 3)).alloc (.cells #[.int .i64 (i : Int)] 3)).drew) w3.heap.size w3.heap.size 0 []) := Lib.hid ((rowLit w3 w3.heap.size w3.heap.size [] rfl (Nat.le_refl _) (by decide)).alloc _)
          have R01 : Hid (RowAt (((w3.alloc (.cells #[.int .i64 (i : Int)] 3)).alloc (.cells #[] 3)).drew) w3.heap.size (w3.heap.size + 1) 0 []) := Lib.hid (rowLit (w3.alloc (.cells #[.int .i64 (i : Int)] 3)) w3.heap.size (w3.heap.size + 1) [] (by simp) (by omega) (by decide))
          have LC2 : Hid ((((w3.alloc (.cells #[] 3)).alloc (.cells #[.int .i64 (i : Int)] 3)).drew).cell? ⟨w3.heap.size + 1, 0, none⟩ = some (.int .i64 (i : Int))) := Lib.hid (keepN (Y := w3.alloc (.cells #[] 3)) (by simp) rfl)
          have LC1 : Hid ((((w3.alloc (.cells #[.int .i64 (i : Int)] 3)).alloc (.cells #[] 3)).drew).cell? ⟨w3.heap.size, 0, none⟩ = some (.int .i64 (i : Int))) := Lib.hid (keepA (Y := w3.alloc (.cells #[.int .i64 (i : Int)] 3)) (keepN rfl rfl))
          go_wp2_with fail
          go_region_law (first
            | ((with_reducible refine step_ints rfl (.tmp 26) (.tmp 29) rfl w3.heap.size w3 (((w3.alloc (.cells #[] 3)).alloc (.cells #[.int .i64 (i : Int)] 3)).drew) w3.heap.size 0 0 k k [] (l.take k) g 0 cp R02.out rfl T1.out (by omega) (bD (bA (by simp) (bA (Nat.le_refl _) (Below.refl _ _)))) (by simp <;> omega) (by omega) rfl rfl (PT.out _ (bD (bA (by simp) (bA (Nat.le_refl _) (Below.refl _ _))))) ?_); intro g1 cap1 w4 r1 n1 b1 gr1; have L32 := Lib.hid (oneOver gr1 LC2.out (by simp)))
            | ((with_reducible refine step_ints rfl (.tmp 26) (.tmp 29) rfl w3.heap.size w3 (((w3.alloc (.cells #[.int .i64 (i : Int)] 3)).alloc (.cells #[] 3)).drew) (w3.heap.size + 1) 0 0 k k [] (l.take k) g 0 cp R01.out rfl T1.out (by omega) (bD (bA (by simp) (bA (Nat.le_refl _) (Below.refl _ _)))) (by simp <;> omega) (by omega) rfl rfl (PT.out _ (bD (bA (by simp) (bA (Nat.le_refl _) (Below.refl _ _))))) ?_); intro g1 cap1 w4 r1 n1 b1 gr1; have L32 := Lib.hid (oneOver gr1 LC1.out (by simp)))
            | ((with_reducible refine step_ints rfl (.tmp 30) (.tmp 32) rfl w3.heap.size w3 w4 g1 cap1 k 1 (k + 1) _ [(i : Int)] _ 0 1 r1 n1 rfl rfl b1 b1.size (by omega) rfl rfl L32.out ?_); intro g2 cap2 w5 r2 n2 b2 gr2)
            | ((with_reducible refine step_ints rfl (.tmp 26) (.tmp 29) rfl w3.heap.size w3 ((w3.alloc (.cells #[] 3)).drew) w3.heap.size 0 0 k k [] (l.take k) g 0 cp R0.out rfl T1.out (by omega) (bD (bA (Nat.le_refl _) (Below.refl _ _))) (by simp) (by omega) rfl rfl (PT.out _ (bD (bA (Nat.le_refl _) (Below.refl _ _)))) ?_); intro g1 cap1 w4 r1 n1 b1 gr1)
            | ((with_reducible refine step_ints rfl (.tmp 30) (.tmp 32) rfl w3.heap.size w3 (w4.alloc (.cells #[.int .i64 (i : Int)] 3)) g1 cap1 k 1 (k + 1) _ [(i : Int)] w4.heap.size 0 1 (r1.alloc _) n1 rfl rfl (bA b1.size b1) (Nat.le_trans b1.size (by simp)) (by omega) rfl rfl (oneCell w4 i) ?_); intro g2 cap2 w5 r2 n2 b2 gr2)
            | ((with_reducible refine step_ints rfl (.tmp 33) (.tmp 36) rfl w3.heap.size w3 w5 g2 cap2 (k + 1) (i - k) (i + 1) _ (l.drop k) g k (cp - k) r2 n2 T2.out (by omega) b2 b2.size (by omega) rfl rfl (PD.out _ b2) ?_); intro g3 cap3 w6 r3 n3 b3 gr3))
          all_goals
            have hs6 := b3.size
            have A3 : Hid (All64 (([] ++ l.take k) ++ [(i : Int)] ++ l.drop k)) := Lib.hid (by
              intro x hx
              simp only [List.mem_append, List.mem_singleton, List.nil_append] at hx
              rcases hx with (hx | rfl) | hx
              · exact AL.out x (List.mem_of_mem_take hx)
              · unfold In64; omega
              · exact AL.out x (List.mem_of_mem_drop hx))
            have R6 := Lib.hid (r3.base (show w2.heap.size + 1 ≤ w3.heap.size by omega))
            have N6 := Lib.hid n3
            have C6 := Lib.hid (C3.out.below b3 C3.out.lt)
            have S6 := Lib.hid (S3.out.grown (grownAny b3 _))
            have X6 := Lib.hid (blockOn X3.out b3)
            have F6 := Lib.hid (blockOn F3.out b3)
            have B6 := Lib.hid (B3.out.trans (b3.mono B3.out.size))
            clear r1 n1 b1 gr1 r2 n2 b2 gr2 r3 n3 b3 gr3
            go_wp2
            go_roundw
            case rel => first | exact ⟨i + 1, g3, cap3, _, by go_num, rfl, by omega, N6.out, A3.out, R6.out, C6.out, S6.out, X6.out, F6.out, B6.out⟩ | exact ⟨_, ⟨i + 1, g3, cap3, _, by go_num, rfl, by omega, N6.out, A3.out, R6.out, C6.out, S6.out, X6.out, F6.out, B6.out⟩, rfl⟩ | exact ⟨_, _, ⟨i + 1, g3, cap3, _, by go_num, rfl, by omega, N6.out, A3.out, R6.out, C6.out, S6.out, X6.out, F6.out, B6.out⟩, rfl⟩ | exact ⟨_, _, _, ⟨i + 1, g3, cap3, _, by go_num, rfl, by omega, N6.out, A3.out, R6.out, C6.out, S6.out, X6.out, F6.out, B6.out⟩, rfl⟩
            case measure => simp [intOf] <;> omega
    · have hi0 : (i : Int) ≤ 6 := by omega
      obtain ⟨z0, z1, y0, y1⟩ := cells2 XR.out
      have hszw : w.heap.size < wr.heap.size := by omega
      have gne : g ≠ w.heap.size := by omega
      have hgw : g < wr.heap.size := hgb.2
      obtain rfl := LL.out
      have hlz : ¬ ((l.length : Int) < n ∧ (l.length : Int) < 6) := hlt
      by_cases hi : (l.length : Int) ≤ 0
      · have h6 : n < 6 := by omega
        have hnn : n ≤ (l.length : Int) := by omega
        have hn0 : n ≤ 0 := by omega
        clear hlt hlz
        go_wp2
        all_goals
          obtain ⟨k0, k1⟩ := keepT (Y := wr) (g := w.heap.size) (u := .int .i64 n) (v := .int .i64 a) z0 z1
          exact bodyPost_ret (v := .tuple #[.agg #[.int .i64 n, .int .i64 a], .slice (some ⟨g, 0, none⟩) l.length cp]) (by simp [results, Try.results29, go_sem, k0, k1]) rfl (listEnd NN.out AA.out (by omega) AL.out RR.out (by omega) BR.out)
      · have hip : (0 : Int) < (l.length : Int) := by omega
        have hipn : 0 < l.length := by omega
        have hst := fun y => (RR.out.1.store rfl 0 y)
        have HST := Lib.hid hst
        clear hst
        rcases (show (n < 6 ∧ n ≤ (l.length : Int)) ∨ (6 ≤ n ∧ 6 ≤ (l.length : Int)) by omega) with ⟨h6, h7⟩ | ⟨h6, h7⟩
        all_goals
          clear hlt hlz hi
          go_wp2_with fail
        all_goals
          refine (Draw.once b _ len 8 (by omega) _ CR.out SR.out).mono ?_
          rintro e w3 ⟨r, rfl, hc3, hg3⟩
          have R3 := Lib.hid (RR.out.over hg3 (by have := HBF.out; omega))
          have C3 := Lib.hid hc3
          have S3 := Lib.hid (SR.out.grown hg3)
          have X3 := Lib.hid (blockOver XR.out hg3 (by have := HBE.out; omega))
          have F3 := Lib.hid (blockOver FR.out hg3 (by have := HBF.out; omega))
          have B3 := Lib.hid (grownNew BR.out hg3 HBN.out)
          have hs3 := hg3.size
          clear hc3 hg3
          cases r with
          | false =>
            obtain ⟨p0, p1, q0, q1⟩ := cells2 X3.out
            obtain ⟨r0, r1, _, _⟩ := cells2 F3.out
            have hszx : w.heap.size < w3.heap.size := by omega
            go_wp2
            all_goals
              obtain ⟨k0, k1⟩ := keepT (Y := w3) (g := w.heap.size) (u := .int .i64 n) (v := .int .i64 a) p0 p1
              exact bodyPost_ret (v := .tuple #[.agg #[.int .i64 n, .int .i64 a], .slice (some ⟨g, 0, none⟩) l.length cp]) (by simp [results, Try.results29, go_sem, k0, k1]) rfl (listEnd NN.out AA.out (by omega) AL.out R3.out (by omega) B3.out)
          | true =>
            go_wp2_with fail
            refine (Cur.pickInt b _ len _ list2 _ (C3.out.alloc _) (S3.out.alloc _) (intsNew w3 b C3.out.lt list2 _ (by decide) (by decide))).mono ?_
            rintro e w4 ⟨y, rfl, hy, hc4, hg4⟩
            obtain ⟨j, hj, rfl⟩ := hy
            have HJ := Lib.hid (list2_in j hj)
            generalize list2.getD j 0 = y at HJ ⊢
            have hs4 := hg4.size
            simp only [World.size_alloc] at hs4
            have R4 := Lib.hid ((R3.out.alloc (.cells (list2.map (Value.int .i64)).toArray 3)).over hg4 (by have := HBF.out; omega))
            have X4 := Lib.hid (blockOver (blockAlloc X3.out (.cells (list2.map (Value.int .i64)).toArray 3)) hg4 (by have := HBE.out; omega))
            have F4 := Lib.hid (blockOver (blockAlloc F3.out (.cells (list2.map (Value.int .i64)).toArray 3)) hg4 (by have := HBF.out; omega))
            have B4 := Lib.hid (grownNew (B3.out.alloc B3.out.size _) hg4 HBN.out)
            have hst := R4.out.1.store rfl 0 y
            have hcell := R4.out.cell 0 hipn
            have hfree := R4.out.1.free 0
            generalize l.getD 0 0 = old at hcell
            have R5 : Hid (RowAt (w4.setCell ⟨g, 0, none⟩ (.int .i64 y)) (w2.heap.size + 1) g cp (l.set 0 y)) := Lib.hid ⟨by rw [List.length_set]; exact hst.1, by rw [List.length_set]; exact R4.out.2⟩
            have A5 : Hid (All64 (l.set 0 y)) := Lib.hid (fun x hx => by
              rcases List.mem_or_eq_of_mem_set hx with h | rfl
              · exact AL.out x h
              · exact HJ.out)
            have X5 := Lib.hid (set1_other (b := g) (j := 0) X4.out gne (.int .i64 y))
            have F5 := Lib.hid (set1_other (b := g) (j := 0) F4.out (by omega) (.int .i64 y))
            have B5 := Lib.hid (bS (p := ⟨g, 0, none⟩) (u := .int .i64 y) (by dsimp only; omega) B4.out)
            obtain ⟨p0, p1, q0, q1⟩ := cells2 X5.out
            obtain ⟨r0, r1, _, _⟩ := cells2 F5.out
            have LSET : Hid ((l.set 0 y).length = l.length) := Lib.hid List.length_set
            have hszy : w.heap.size < w4.heap.size := by omega
            have hszg : g < w4.heap.size := R4.out.lt.2
            clear hst hc4 hg4 hj
            go_wp2
            all_goals
              obtain ⟨k0, k1⟩ := keepT (Y := w4.setCell ⟨g, 0, none⟩ (.int .i64 y)) (g := w.heap.size) (u := .int .i64 n) (v := .int .i64 a) p0 p1
              exact bodyPost_ret (v := .tuple #[.agg #[.int .i64 n, .int .i64 a], .slice (some ⟨g, 0, none⟩) l.length cp]) (by simp [results, Try.results29, go_sem, k0, k1]) rfl (by
                have := listEnd (u := .int .i64 n) (v := .int .i64 a) NN.out AA.out (by rw [LSET.out]; omega) A5.out R5.out (by omega) B5.out
                rw [LSET.out] at this
                exact this)
theorem Draw.permute (av : Value) (len : Nat) (w : World) (hc : CodeIn w av len) :
    Calls Try.prog 29 #[av] w (ListOut w) :=
  (Draw.permuteN av len w hc).mono fun _ _ h => h.out

end Go.Proofs.Ytdhdkonokbkdoaa
