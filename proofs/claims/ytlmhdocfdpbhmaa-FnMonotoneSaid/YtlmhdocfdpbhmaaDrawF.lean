/-
  What the draws of tables answer: some table, some number, whatever the code.
  Draws of any table: those of a few variables, or with other bits or another word.
  What is drawn from a code for the law of restrictions: a table and a variable.
  What is drawn from a code for the law of restrictions: the other draws.
-/
import Derived.Test.YtlmhdocfdpbhmaaDrawA
import Derived.Test.YtlmhdocfdpbhmaaTabK
import Derived.Test.YtlmhdocfdpbhmaaTabI
import Derived.Test.YtlmhdocfdpbhmaaRowB
import Derived.Test.YtlmhdocfdpbhmaaResB
import Derived.Deep.RegionHeld3
import Derived.Deep.DeepCutAuto
import Derived.Deep.DrawnRows

namespace Go.Proofs.Ytlmhdocfdpbhmaa
open Go.RowKit Plain
set_option linter.unusedVariables false

theorem bits64_or (a b : Int) : In64 (Go.bits .or .i64 a b) := by
  show -9223372036854775808 ≤ IntKind.i64.wrap _ ∧ IntKind.i64.wrap _ ≤ 9223372036854775807
  rw [IntKind.wrap_i64]; omega
theorem bits64_and (a b : Int) : In64 (Go.bits .and .i64 a b) := by
  show -9223372036854775808 ≤ IntKind.i64.wrap _ ∧ IntKind.i64.wrap _ ≤ 9223372036854775807
  rw [IntKind.wrap_i64]; omega
theorem blockOver {X w' : World} {b c : Nat} {o : Obj} (h : X.heap[c]? = some o) (hg : X.grownBy w' (some b)) (hne : c ≠ b) : w'.heap[c]? = some o :=
  (hg.block c (lt_of_block h) (by simpa using hne)).trans h

/-- What a draw of a table of n variables answers. -/
def TabOut (P : Int → Prop) (b : Nat) (av : Value) (len : Nat) (w : World) (e : Ending) (w' : World) : Prop :=
  ∃ n a : Int, e = .returned (.agg #[.int .i64 n, .int .i64 a]) ∧ P n ∧ In64 a ∧ CurAt w' b av len ∧ w.grownBy w' (some b)

theorem drawnEnd {P : Int → Prop} {b len : Nat} {av : Value} {w wr : World} {n a : Int} {u v : Value} (hP : P n) (ha : In64 a) (hc : CurAt wr b av len) (hg : w.grownBy wr (some b)) (hb : b < w.heap.size) :
    TabOut P b av len w (.returned (.agg #[.int .i64 n, .int .i64 a])) ((wr.setCell ⟨w.heap.size, 0, none⟩ u).setCell ⟨w.heap.size, 1, none⟩ v) := by
  refine ⟨n, a, rfl, hP, ha, ?_, ?_⟩
  · obtain ⟨i, h, hi, hh⟩ := hc
    exact ⟨i, h, hi, by rw [heap_setCell_other _ _ _ _ (by dsimp only; omega), heap_setCell_other _ _ _ _ (by dsimp only; omega)]; exact hh⟩
  · refine ⟨hg.os, hg.tape, hg.output, by simpa using hg.size, fun k hk hne => ?_⟩
    rw [heap_setCell_other _ _ _ _ (by dsimp only; omega), heap_setCell_other _ _ _ _ (by dsimp only; omega)]
    exact hg.block k hk hne

set_option maxRecDepth 100000 in
set_option maxHeartbeats 4000000 in
theorem Draw.tab (b : Nat) (av : Value) (len : Nat) (n : Nat) (hn : n ≤ 5) (w : World) (hc : CurAt w b av len) (hs : SrcAt w b av len) :
    Calls Try.prog 129 #[.pointer (some ⟨b, 0, none⟩), .int .i64 n] w (TabOut (fun m => m = (n : Int)) b av len w) := by
  have hbl := hc.lt
  have HB := Lib.hid hbl
  have HS := Lib.hid hs
  have HC := Lib.hid hc
  have HN := Lib.hid hn
  have hn5 : (n : Int) ≤ 5 := by omega
  obtain ⟨hp1, hp2⟩ := two_pow_int n hn
  have HA : ∀ o : Obj, Hid (w.grownBy (w.alloc o) (some b)) := fun o => Lib.hid (World.grownBy_alloc w o (some b))
  clear hbl hc hs hn
  go_enter Try.func129, Try.ntmps129
  go_wp2_with fail
  refine (Cur.below b av len 6 (by omega) _ (HC.out.alloc _) (HS.out.grown (HA _).out)).mono ?_
  rintro e w1 ⟨z, rfl, ⟨hz0, hz6, _⟩, hc1, hg1⟩
  have hz : z < 6 := hz6 (by omega)
  have HX1 := Lib.hid (blockOver (heap_alloc_new w _) hg1 (by have := HB.out; omega))
  have HC1 := Lib.hid hc1
  have HG1 := Lib.hid (grownTrans (HA _).out hg1)
  clear hc1 hg1 hz6
  by_cases h0 : z = 0
  · subst h0
    go_wp2_with fail
    all_goals
      refine (Cur.below b av len _ (by omega) _ HC1.out (HS.out.grown HG1.out)).mono ?_
      rintro e w2 ⟨x, rfl, hx, hc2, hg2⟩
      obtain ⟨hx0, hx1, hx2⟩ := hx
      have hx5 : x ≤ 5 := by omega
      obtain ⟨k, rfl⟩ := Int.eq_ofNat_of_zero_le hx0
      have HX2 := Lib.hid (blockOver HX1.out hg2 (by have := HB.out; omega))
      have HC2 := Lib.hid hc2
      have HG2 := Lib.hid (grownTrans HG1.out hg2)
      have HK : Hid (k ≤ 5) := Lib.hid (by omega)
      have HW := Lib.hid (varW_bound k (2 ^ n) (by have := two_pow_le n HN.out; omega))
      clear hc2 hg2 hx1 hx2 hx5
      go_wp2_with fail
      refine (Tab.varM_loop n k HN.out HK.out _).mono ?_
      rintro e w3 ⟨rfl, rfl⟩
      generalize varW k (2 ^ n) = q at HW ⊢
      obtain ⟨c0, c1, f0, f1⟩ := cells2 (HX2.out)
      have hszE : w.heap.size < w2.heap.size := lt_of_block (HX2.out)
      have HHC := Lib.hid (HC2.out)
      have HHG := Lib.hid (HG2.out)
      have HB1 := Lib.hid (bits64_and ((q : Int)) 1)
      by_cases hn0 : n = 0
      · have hn0b : ((n : Int) == 0) = true := by rw [beq_iff_eq]; omega
        clear hn0
        go_wp2_with fail
        refine (Tab.fullM n HN.out _).mono ?_
        rintro e wE ⟨rfl, rfl⟩
        go_wp2
        obtain ⟨k0, k1⟩ := keepT (Y := w2) (g := w.heap.size) (u := .int .i64 (n : Int)) (v := .int .i64 (Go.bits .and .i64 (Go.bits .and .i64 ((q : Int)) 1) (fullN n : Int))) c0 c1
        exact bodyPost_ret (v := .agg #[.int .i64 (n : Int), .int .i64 (Go.bits .and .i64 (Go.bits .and .i64 ((q : Int)) 1) (fullN n : Int))]) (by simp [results, Try.results129, go_sem, k0, k1]) rfl (drawnEnd rfl (bits64_and _ _) HHC.out HHG.out HB.out)
      · have hn0b : ((n : Int) == 0) = false := by rw [beq_eq_false_iff_ne]; omega
        clear hn0
        go_wp2_with fail
        refine (Tab.fullM n HN.out _).mono ?_
        rintro e wE ⟨rfl, rfl⟩
        go_wp2
        obtain ⟨k0, k1⟩ := keepT (Y := w2) (g := w.heap.size) (u := .int .i64 (n : Int)) (v := .int .i64 (Go.bits .and .i64 ((q : Int)) (fullN n : Int))) c0 c1
        exact bodyPost_ret (v := .agg #[.int .i64 (n : Int), .int .i64 (Go.bits .and .i64 ((q : Int)) (fullN n : Int))]) (by simp [results, Try.results129, go_sem, k0, k1]) rfl (drawnEnd rfl (bits64_and _ _) HHC.out HHG.out HB.out)
  · have t0 : (z == 0) = false := by rw [beq_eq_false_iff_ne]; exact h0
    by_cases h1 : z = 1
    · subst h1
      go_wp2_with fail
      go_loopw [5, 6] (fun a' x wr => ∃ (v : Int) (y : Nat), x = .int .i64 (y : Int) ∧ a' = .int .i64 v ∧ (y : Int) ≤ 2 ^ n ∧ CurAt wr b av len ∧ w.grownBy wr (some b) ∧ wr.heap[w.heap.size]? = some (.cells #[.int .i64 0, .int .i64 0] 27 (0, 0))) (fun _ x _ => 32 - (intOf x).toNat)
      case atStart => exact ⟨0, 0, rfl, rfl, by omega, HC1.out, HG1.out, HX1.out⟩
      case round =>
        obtain ⟨v, y, rfl, rfl, hy, hcr, hgr, hxr⟩ := hrel
        have HCR := Lib.hid hcr
        have HGR := Lib.hid hgr
        have HXR := Lib.hid hxr
        clear hcr hgr hxr
        by_cases hlt : (y : Int) < 2 ^ n
        · have hpl := popN_lim y (by omega)
          by_cases hq : (n : Int) < 2 * (popN y : Int)
          · go_wp2_with fail
            refine (Tab.onesM y (by omega) _).mono ?_
            rintro e wE ⟨rfl, rfl⟩
            go_wp2_with fail
            go_roundw
            case rel => exact ⟨_, y + 1, by go_num, rfl, by omega, HCR.out, HGR.out, HXR.out⟩
            case measure => simp [intOf] <;> omega
          · go_wp2_with fail
            refine (Tab.onesM y (by omega) _).mono ?_
            rintro e wE ⟨rfl, rfl⟩
            go_wp2_with fail
            go_roundw
            case rel => exact ⟨_, y + 1, by go_num, rfl, by omega, HCR.out, HGR.out, HXR.out⟩
            case measure => simp [intOf] <;> omega
        · obtain ⟨c0, c1, f0, f1⟩ := cells2 (HXR.out)
          have hszE : w.heap.size < wr.heap.size := lt_of_block (HXR.out)
          have HHC := Lib.hid (HCR.out)
          have HHG := Lib.hid (HGR.out)
          have HB1 := Lib.hid (bits64_and (v) 1)
          by_cases hn0 : n = 0
          · have hn0b : ((n : Int) == 0) = true := by rw [beq_iff_eq]; omega
            clear hn0
            go_wp2_with fail
            refine (Tab.fullM n HN.out _).mono ?_
            rintro e wE ⟨rfl, rfl⟩
            go_wp2
            obtain ⟨k0, k1⟩ := keepT (Y := wr) (g := w.heap.size) (u := .int .i64 (n : Int)) (v := .int .i64 (Go.bits .and .i64 (Go.bits .and .i64 (v) 1) (fullN n : Int))) c0 c1
            exact bodyPost_ret (v := .agg #[.int .i64 (n : Int), .int .i64 (Go.bits .and .i64 (Go.bits .and .i64 (v) 1) (fullN n : Int))]) (by simp [results, Try.results129, go_sem, k0, k1]) rfl (drawnEnd rfl (bits64_and _ _) HHC.out HHG.out HB.out)
          · have hn0b : ((n : Int) == 0) = false := by rw [beq_eq_false_iff_ne]; omega
            clear hn0
            go_wp2_with fail
            refine (Tab.fullM n HN.out _).mono ?_
            rintro e wE ⟨rfl, rfl⟩
            go_wp2
            obtain ⟨k0, k1⟩ := keepT (Y := wr) (g := w.heap.size) (u := .int .i64 (n : Int)) (v := .int .i64 (Go.bits .and .i64 (v) (fullN n : Int))) c0 c1
            exact bodyPost_ret (v := .agg #[.int .i64 (n : Int), .int .i64 (Go.bits .and .i64 (v) (fullN n : Int))]) (by simp [results, Try.results129, go_sem, k0, k1]) rfl (drawnEnd rfl (bits64_and _ _) HHC.out HHG.out HB.out)
    · have t1 : (z == 1) = false := by rw [beq_eq_false_iff_ne]; exact h1
      by_cases h2 : z = 2
      · subst h2
        go_wp2_with fail
        go_loopw [5, 7] (fun a' x wr => ∃ (v : Int) (y : Nat), x = .int .i64 (y : Int) ∧ a' = .int .i64 v ∧ (y : Int) ≤ 2 ^ n ∧ CurAt wr b av len ∧ w.grownBy wr (some b) ∧ wr.heap[w.heap.size]? = some (.cells #[.int .i64 0, .int .i64 0] 27 (0, 0))) (fun _ x _ => 32 - (intOf x).toNat)
        case atStart => exact ⟨0, 0, rfl, rfl, by omega, HC1.out, HG1.out, HX1.out⟩
        case round =>
          obtain ⟨v, y, rfl, rfl, hy, hcr, hgr, hxr⟩ := hrel
          have HCR := Lib.hid hcr
          have HGR := Lib.hid hgr
          have HXR := Lib.hid hxr
          clear hcr hgr hxr
          by_cases hlt : (y : Int) < 2 ^ n
          · have hpl := popN_lim y (by omega)
            by_cases hq : (popN y : Int) % 2 = 1
            · go_wp2_with fail
              refine (Tab.onesM y (by omega) _).mono ?_
              rintro e wE ⟨rfl, rfl⟩
              go_wp2_with fail
              go_roundw
              case rel => exact ⟨_, y + 1, by go_num, rfl, by omega, HCR.out, HGR.out, HXR.out⟩
              case measure => simp [intOf] <;> omega
            · have hqb : ((popN y : Int) % 2 == 1) = false := by rw [beq_eq_false_iff_ne]; exact hq
              go_wp2_with fail
              refine (Tab.onesM y (by omega) _).mono ?_
              rintro e wE ⟨rfl, rfl⟩
              go_wp2_with fail
              go_roundw
              case rel => exact ⟨_, y + 1, by go_num, rfl, by omega, HCR.out, HGR.out, HXR.out⟩
              case measure => simp [intOf] <;> omega
          · obtain ⟨c0, c1, f0, f1⟩ := cells2 (HXR.out)
            have hszE : w.heap.size < wr.heap.size := lt_of_block (HXR.out)
            have HHC := Lib.hid (HCR.out)
            have HHG := Lib.hid (HGR.out)
            have HB1 := Lib.hid (bits64_and (v) 1)
            by_cases hn0 : n = 0
            · have hn0b : ((n : Int) == 0) = true := by rw [beq_iff_eq]; omega
              clear hn0
              go_wp2_with fail
              refine (Tab.fullM n HN.out _).mono ?_
              rintro e wE ⟨rfl, rfl⟩
              go_wp2
              obtain ⟨k0, k1⟩ := keepT (Y := wr) (g := w.heap.size) (u := .int .i64 (n : Int)) (v := .int .i64 (Go.bits .and .i64 (Go.bits .and .i64 (v) 1) (fullN n : Int))) c0 c1
              exact bodyPost_ret (v := .agg #[.int .i64 (n : Int), .int .i64 (Go.bits .and .i64 (Go.bits .and .i64 (v) 1) (fullN n : Int))]) (by simp [results, Try.results129, go_sem, k0, k1]) rfl (drawnEnd rfl (bits64_and _ _) HHC.out HHG.out HB.out)
            · have hn0b : ((n : Int) == 0) = false := by rw [beq_eq_false_iff_ne]; omega
              clear hn0
              go_wp2_with fail
              refine (Tab.fullM n HN.out _).mono ?_
              rintro e wE ⟨rfl, rfl⟩
              go_wp2
              obtain ⟨k0, k1⟩ := keepT (Y := wr) (g := w.heap.size) (u := .int .i64 (n : Int)) (v := .int .i64 (Go.bits .and .i64 (v) (fullN n : Int))) c0 c1
              exact bodyPost_ret (v := .agg #[.int .i64 (n : Int), .int .i64 (Go.bits .and .i64 (v) (fullN n : Int))]) (by simp [results, Try.results129, go_sem, k0, k1]) rfl (drawnEnd rfl (bits64_and _ _) HHC.out HHG.out HB.out)
      · have t2 : (z == 2) = false := by rw [beq_eq_false_iff_ne]; exact h2
        by_cases h3 : z = 3
        · subst h3
          go_wp2_with fail
          refine (Cur.below b av len _ (by omega) _ HC1.out (HS.out.grown HG1.out)).mono ?_
          rintro e w2 ⟨x, rfl, hx, hc2, hg2⟩
          obtain ⟨hx0, hx1, hx2⟩ := hx
          have hx5 : x ≤ 32 := by omega
          obtain ⟨k, rfl⟩ := Int.eq_ofNat_of_zero_le hx0
          have HX2 := Lib.hid (blockOver HX1.out hg2 (by have := HB.out; omega))
          have HC2 := Lib.hid hc2
          have HG2 := Lib.hid (grownTrans HG1.out hg2)
          clear hc2 hg2 hx1 hx2
          go_wp2_with fail
          go_loopw [5, 9] (fun a' x wr => ∃ (v : Int) (y : Nat), x = .int .i64 (y : Int) ∧ a' = .int .i64 v ∧ (y : Int) ≤ 2 ^ n ∧ CurAt wr b av len ∧ w.grownBy wr (some b) ∧ wr.heap[w.heap.size]? = some (.cells #[.int .i64 0, .int .i64 0] 27 (0, 0))) (fun _ x _ => 32 - (intOf x).toNat)
          case atStart => exact ⟨0, 0, rfl, rfl, by omega, HC2.out, HG2.out, HX2.out⟩
          case round =>
            obtain ⟨v, y, rfl, rfl, hy, hcr, hgr, hxr⟩ := hrel
            have HCR := Lib.hid hcr
            have HGR := Lib.hid hgr
            have HXR := Lib.hid hxr
            clear hcr hgr hxr
            by_cases hlt : (y : Int) < 2 ^ n
            · have hand := and64 y k (by omega) (by omega)
              by_cases hq : y &&& k = k
              · rw [hq] at hand
                go_wp2_with fail
                go_roundw
                case rel => exact ⟨_, y + 1, by go_num, rfl, by omega, HCR.out, HGR.out, HXR.out⟩
                case measure => simp [intOf] <;> omega
              · have hqb : (((y &&& k : Nat) : Int) == (k : Int)) = false := by rw [beq_eq_false_iff_ne]; omega
                go_wp2_with fail
                go_roundw
                case rel => exact ⟨_, y + 1, by go_num, rfl, by omega, HCR.out, HGR.out, HXR.out⟩
                case measure => simp [intOf] <;> omega
            · obtain ⟨c0, c1, f0, f1⟩ := cells2 (HXR.out)
              have hszE : w.heap.size < wr.heap.size := lt_of_block (HXR.out)
              have HHC := Lib.hid (HCR.out)
              have HHG := Lib.hid (HGR.out)
              have HB1 := Lib.hid (bits64_and (v) 1)
              by_cases hn0 : n = 0
              · have hn0b : ((n : Int) == 0) = true := by rw [beq_iff_eq]; omega
                clear hn0
                go_wp2_with fail
                refine (Tab.fullM n HN.out _).mono ?_
                rintro e wE ⟨rfl, rfl⟩
                go_wp2
                obtain ⟨k0, k1⟩ := keepT (Y := wr) (g := w.heap.size) (u := .int .i64 (n : Int)) (v := .int .i64 (Go.bits .and .i64 (Go.bits .and .i64 (v) 1) (fullN n : Int))) c0 c1
                exact bodyPost_ret (v := .agg #[.int .i64 (n : Int), .int .i64 (Go.bits .and .i64 (Go.bits .and .i64 (v) 1) (fullN n : Int))]) (by simp [results, Try.results129, go_sem, k0, k1]) rfl (drawnEnd rfl (bits64_and _ _) HHC.out HHG.out HB.out)
              · have hn0b : ((n : Int) == 0) = false := by rw [beq_eq_false_iff_ne]; omega
                clear hn0
                go_wp2_with fail
                refine (Tab.fullM n HN.out _).mono ?_
                rintro e wE ⟨rfl, rfl⟩
                go_wp2
                obtain ⟨k0, k1⟩ := keepT (Y := wr) (g := w.heap.size) (u := .int .i64 (n : Int)) (v := .int .i64 (Go.bits .and .i64 (v) (fullN n : Int))) c0 c1
                exact bodyPost_ret (v := .agg #[.int .i64 (n : Int), .int .i64 (Go.bits .and .i64 (v) (fullN n : Int))]) (by simp [results, Try.results129, go_sem, k0, k1]) rfl (drawnEnd rfl (bits64_and _ _) HHC.out HHG.out HB.out)
        · have t3 : (z == 3) = false := by rw [beq_eq_false_iff_ne]; exact h3
          go_wp2_with fail
          go_loopw [5, 10] (fun a' x wr => ∃ (v : Int) (y : Nat), x = .int .i64 (y : Int) ∧ a' = .int .i64 v ∧ (y : Int) ≤ 2 ^ n ∧ CurAt wr b av len ∧ w.grownBy wr (some b) ∧ wr.heap[w.heap.size]? = some (.cells #[.int .i64 0, .int .i64 0] 27 (0, 0))) (fun _ x _ => 32 - (intOf x).toNat)
          case atStart => exact ⟨0, 0, rfl, rfl, by omega, HC1.out, HG1.out, HX1.out⟩
          case round =>
            obtain ⟨v, y, rfl, rfl, hy, hcr, hgr, hxr⟩ := hrel
            have HCR := Lib.hid hcr
            have HGR := Lib.hid hgr
            have HXR := Lib.hid hxr
            clear hcr hgr hxr
            by_cases hlt : (y : Int) < 2 ^ n
            · go_wp2_with fail
              refine (Cur.below b av len 2 (by omega) _ HCR.out (HS.out.grown HGR.out)).mono ?_
              rintro e w2 ⟨x, rfl, ⟨hx0, hx2, _⟩, hc2, hg2⟩
              have hx1 : x ≤ 1 := by have := hx2 (by omega); omega
              have HX2 := Lib.hid (blockOver HXR.out hg2 (by have := HB.out; omega))
              have HC2 := Lib.hid hc2
              have HG2 := Lib.hid (grownTrans HGR.out hg2)
              clear hc2 hg2 hx2
              go_wp2_with fail
              go_roundw
              case rel => exact ⟨_, y + 1, by go_num, rfl, by omega, HC2.out, HG2.out, HX2.out⟩
              case measure => simp [intOf] <;> omega
            · obtain ⟨c0, c1, f0, f1⟩ := cells2 (HXR.out)
              have hszE : w.heap.size < wr.heap.size := lt_of_block (HXR.out)
              have HHC := Lib.hid (HCR.out)
              have HHG := Lib.hid (HGR.out)
              have HB1 := Lib.hid (bits64_and (v) 1)
              by_cases hn0 : n = 0
              · have hn0b : ((n : Int) == 0) = true := by rw [beq_iff_eq]; omega
                clear hn0
                go_wp2_with fail
                refine (Tab.fullM n HN.out _).mono ?_
                rintro e wE ⟨rfl, rfl⟩
                go_wp2
                obtain ⟨k0, k1⟩ := keepT (Y := wr) (g := w.heap.size) (u := .int .i64 (n : Int)) (v := .int .i64 (Go.bits .and .i64 (Go.bits .and .i64 (v) 1) (fullN n : Int))) c0 c1
                exact bodyPost_ret (v := .agg #[.int .i64 (n : Int), .int .i64 (Go.bits .and .i64 (Go.bits .and .i64 (v) 1) (fullN n : Int))]) (by simp [results, Try.results129, go_sem, k0, k1]) rfl (drawnEnd rfl (bits64_and _ _) HHC.out HHG.out HB.out)
              · have hn0b : ((n : Int) == 0) = false := by rw [beq_eq_false_iff_ne]; omega
                clear hn0
                go_wp2_with fail
                refine (Tab.fullM n HN.out _).mono ?_
                rintro e wE ⟨rfl, rfl⟩
                go_wp2
                obtain ⟨k0, k1⟩ := keepT (Y := wr) (g := w.heap.size) (u := .int .i64 (n : Int)) (v := .int .i64 (Go.bits .and .i64 (v) (fullN n : Int))) c0 c1
                exact bodyPost_ret (v := .agg #[.int .i64 (n : Int), .int .i64 (Go.bits .and .i64 (v) (fullN n : Int))]) (by simp [results, Try.results129, go_sem, k0, k1]) rfl (drawnEnd rfl (bits64_and _ _) HHC.out HHG.out HB.out)

end Go.Proofs.Ytlmhdocfdpbhmaa

namespace Go.Proofs.Ytlmhdocfdpbhmaa
open Go.RowKit Plain
set_option linter.unusedVariables false

theorem CurAt.set {w : World} {b len : Nat} {av : Value} (h : CurAt w b av len) (g j : Nat) (v : Value) (hne : g ≠ b) : CurAt (w.setCell ⟨g, j, none⟩ v) b av len := by
  obtain ⟨i, x, hi, hh⟩ := h
  exact ⟨i, x, hi, by rw [heap_setCell_other _ _ _ _ (by dsimp only; omega)]; exact hh⟩
theorem grownOver {w wr : World} {b : Nat} (hg : w.grownBy wr (some b)) (g j : Nat) (v : Value) (hB : w.heap.size ≤ g) : w.grownBy (wr.setCell ⟨g, j, none⟩ v) (some b) := by
  refine ⟨hg.os, hg.tape, hg.output, by simpa using hg.size, fun k hk hne => ?_⟩
  rw [heap_setCell_other _ _ _ _ (by dsimp only; omega)]
  exact hg.block k hk hne
theorem grownAlloc {w wr : World} {b : Nat} (hg : w.grownBy wr (some b)) (o : Obj) : w.grownBy (wr.alloc o) (some b) := grownTrans hg (World.grownBy_alloc _ _ _)
theorem SrcAt.alloc {w : World} {b : Nat} {av : Value} {len : Nat} (h : SrcAt w b av len) (o : Obj) : SrcAt (w.alloc o) b av len := h.grown (World.grownBy_alloc _ _ _)
theorem blockAlloc {w : World} {b : Nat} {o : Obj} (h : w.heap[b]? = some o) (p : Obj) : (w.alloc p).heap[b]? = some o := blockOver (b := b + 1) h (World.grownBy_alloc _ _ _) (by omega)
theorem set1 {w : World} {b : Nat} {x y : Value} {T : TypeId} (h : w.heap[b]? = some (.cells #[x, y] T (0, 0))) (u : Value) : (w.setCell ⟨b, 0, none⟩ u).heap[b]? = some (.cells #[u, y] T (0, 0)) ∧ (w.setCell ⟨b, 1, none⟩ u).heap[b]? = some (.cells #[x, u] T (0, 0)) := by
  constructor
  · rw [heap_setCell_same w b 0 _ _ u h]; rfl
  · rw [heap_setCell_same w b 1 _ _ u h]; rfl
theorem set1_other {w : World} {b c j : Nat} {o : Option Obj} (h : w.heap[c]? = o) (hne : b ≠ c) (u : Value) : (w.setCell ⟨b, j, none⟩ u).heap[c]? = o := by
  rw [heap_setCell_other _ ⟨b, j, none⟩ c u (fun e => hne (by simp [e]))]; exact h

def list0 : List Int := [-1, 6, 5, 0, 9223372036854775807]
def list1 : List Int := [-1, 0, 1, 65536, 9223372036854775807]
theorem list0_in : ∀ j, j < list0.length → In64 (list0.getD j 0) := by
  intro j hj
  have hj5 : j < 5 := hj
  rcases (show j = 0 ∨ j = 1 ∨ j = 2 ∨ j = 3 ∨ j = 4 by omega) with rfl | rfl | rfl | rfl | rfl <;> (unfold In64 list0; decide)
theorem list1_in : ∀ j, j < list1.length → In64 (list1.getD j 0) := by
  intro j hj
  have hj5 : j < 5 := hj
  rcases (show j = 0 ∨ j = 1 ∨ j = 2 ∨ j = 3 ∨ j = 4 by omega) with rfl | rfl | rfl | rfl | rfl <;> (unfold In64 list1; decide)

theorem anyEnd {b len : Nat} {av : Value} {w wr : World} {n a : Int} {u v : Value} (hn : In64 n) (ha : In64 a) (hc : CurAt wr b av len) (hg : w.grownBy wr (some b)) (hb : b < w.heap.size) :
    TabOut In64 b av len w (.returned (.agg #[.int .i64 n, .int .i64 a])) ((wr.setCell ⟨w.heap.size, 0, none⟩ u).setCell ⟨w.heap.size, 1, none⟩ v) :=
  drawnEnd hn ha hc hg hb

set_option maxRecDepth 100000 in
set_option maxHeartbeats 2000000 in
theorem Draw.any (b : Nat) (av : Value) (len : Nat) (w : World) (hc : CurAt w b av len) (hs : SrcAt w b av len) :
    Calls Try.prog 109 #[.pointer (some ⟨b, 0, none⟩)] w (TabOut In64 b av len w) := by
  have hbl := hc.lt
  have HB := Lib.hid hbl
  have HS := Lib.hid hs
  have HC := Lib.hid hc
  have HA : ∀ o : Obj, Hid (w.grownBy (w.alloc o) (some b)) := fun o => Lib.hid (World.grownBy_alloc w o (some b))
  clear hbl hc hs
  go_enter Try.func109, Try.ntmps109
  go_wp2_with fail
  refine (Cur.below b av len 5 (by omega) _ (HC.out.alloc _) (HS.out.grown (HA _).out)).mono ?_
  rintro e w1 ⟨z, rfl, ⟨hz0, hz6, _⟩, hc1, hg1⟩
  have hz : z < 5 := hz6 (by omega)
  obtain ⟨n, rfl⟩ := Int.eq_ofNat_of_zero_le hz0
  have HX1 := Lib.hid (blockOver (heap_alloc_new w _) hg1 (by have := HB.out; omega))
  have HC1 := Lib.hid hc1
  have HG1 := Lib.hid (grownTrans (HA _).out hg1)
  have HN : Hid (n ≤ 5) := Lib.hid (by omega)
  clear hc1 hg1 hz6
  go_wp2_with fail
  refine (Draw.tab b av len n HN.out _ HC1.out (HS.out.grown HG1.out)).mono ?_
  rintro e w2 ⟨n', a, rfl, hn', ha, hc2, hg2⟩
  have HNN : Hid (In64 n') := Lib.hid (by rw [hn']; unfold In64; omega)
  have HAA := Lib.hid ha
  have hszr : w.heap.size < w2.heap.size := by have := lt_of_block HX1.out; have := hg2.size; omega
  have HX2 := Lib.hid (blockOver HX1.out hg2 (by have := HB.out; omega))
  have HC2 := Lib.hid hc2
  have HG2 := Lib.hid (grownTrans HG1.out hg2)
  have HBW : Hid (b < w2.heap.size) := Lib.hid hc2.lt
  clear hc2 hg2 hn' ha hz hz0
  go_wp2_with fail
  refine (Cur.below b av len 14 (by omega) _ (HC2.out.alloc _) ((HS.out.grown HG2.out).alloc _)).mono ?_
  rintro e w3 ⟨x, rfl, ⟨hx0, hx14, _⟩, hc3, hg3⟩
  have hs3 := hg3.size
  simp only [World.size_alloc] at hs3
  have HX3 := Lib.hid (blockOver (blockAlloc HX2.out (.cells #[.int .i64 n', .int .i64 a] 27)) hg3 (by have := HB.out; omega))
  have HF3 := Lib.hid (blockOver (heap_alloc_new w2 (.cells #[.int .i64 n', .int .i64 a] 27)) hg3 (by have := HBW.out; omega))
  have HC3 := Lib.hid hc3
  have HG3 := Lib.hid (grownTrans (grownAlloc HG2.out _) hg3)
  clear hc3 hg3 hx14
  by_cases h0 : x = 0
  · subst h0
    obtain ⟨c0, c1, f0, f1⟩ := cells2 HF3.out
    go_wp2_with fail
    refine (Cur.pickInt b av len _ list0 _ (HC3.out.alloc _) ((HS.out.grown HG3.out).alloc _) (intsNew w3 b HC3.out.lt list0 _ (by decide) (by decide))).mono ?_
    rintro e w4 ⟨y, rfl, hy, hc4, hg4⟩
    obtain ⟨j, hj, rfl⟩ := hy
    have HJ := Lib.hid (list0_in j hj)
    have hs4 := hg4.size
    simp only [World.size_alloc] at hs4
    have HX4 := Lib.hid (blockOver (blockAlloc HX3.out (.cells (list0.map (Value.int .i64)).toArray 3)) hg4 (by have := HB.out; omega))
    have hf4 := blockOver (blockAlloc HF3.out (.cells (list0.map (Value.int .i64)).toArray 3)) hg4 (by have := HBW.out; omega)
    have HF4 := Lib.hid hf4
    have HC4 := Lib.hid hc4
    have HG4 := Lib.hid (grownTrans (grownAlloc HG3.out _) hg4)
    obtain ⟨d0, d1, e0, e1⟩ := cells2 hf4
    obtain ⟨p0, p1, q0, q1⟩ := cells2 HX4.out
    generalize list0.getD j 0 = y at HJ ⊢
    have HFS := Lib.hid (set1 HF4.out (.int .i64 y)).1
    have HXS := Lib.hid (set1_other (b := w2.heap.size) (j := 0) HX4.out (by omega) (.int .i64 y))
    obtain ⟨r0, r1, _, _⟩ := cells2 HFS.out
    obtain ⟨t0, t1, u0, u1⟩ := cells2 HXS.out
    have hszz : w.heap.size < w4.heap.size := by omega
    have hszy : w2.heap.size < w4.heap.size := by omega
    clear hc4 hg4 hf4 hj c0 c1 f0 f1
    go_wp2
    obtain ⟨k0, k1⟩ := keepT (Y := w4.setCell ⟨w2.heap.size, 0, none⟩ (.int .i64 y)) (g := w.heap.size) (u := .int .i64 y) (v := .int .i64 a) t0 t1
    exact bodyPost_ret (v := .agg #[.int .i64 y, .int .i64 a]) (by simp [results, Try.results109, go_sem, k0, k1]) rfl (anyEnd HJ.out HAA.out (HC4.out.set _ _ _ (by have := HBW.out; omega)) (grownOver HG4.out _ _ _ (by omega)) HB.out)
  · have t0 : (x == 0) = false := by rw [beq_eq_false_iff_ne]; exact h0
    by_cases h1 : x = 1
    · subst h1
      obtain ⟨c0, c1, f0, f1⟩ := cells2 HF3.out
      go_wp2_with fail
      refine (Cur.pickInt b av len _ list1 _ (HC3.out.alloc _) ((HS.out.grown HG3.out).alloc _) (intsNew w3 b HC3.out.lt list1 _ (by decide) (by decide))).mono ?_
      rintro e w4 ⟨y, rfl, hy, hc4, hg4⟩
      obtain ⟨j, hj, rfl⟩ := hy
      have HJ := Lib.hid (list1_in j hj)
      have hs4 := hg4.size
      simp only [World.size_alloc] at hs4
      have HX4 := Lib.hid (blockOver (blockAlloc HX3.out (.cells (list1.map (Value.int .i64)).toArray 3)) hg4 (by have := HB.out; omega))
      have hf4 := blockOver (blockAlloc HF3.out (.cells (list1.map (Value.int .i64)).toArray 3)) hg4 (by have := HBW.out; omega)
      have HF4 := Lib.hid hf4
      have HC4 := Lib.hid hc4
      have HG4 := Lib.hid (grownTrans (grownAlloc HG3.out _) hg4)
      obtain ⟨d0, d1, e0, e1⟩ := cells2 hf4
      obtain ⟨p0, p1, q0, q1⟩ := cells2 HX4.out
      generalize list1.getD j 0 = y at HJ ⊢
      have HFS := Lib.hid (set1 HF4.out (.int .i64 y)).2
      have HXS := Lib.hid (set1_other (b := w2.heap.size) (j := 1) HX4.out (by omega) (.int .i64 y))
      obtain ⟨r0, r1, _, _⟩ := cells2 HFS.out
      obtain ⟨s0, s1, u0, u1⟩ := cells2 HXS.out
      have hszz : w.heap.size < w4.heap.size := by omega
      have hszy : w2.heap.size < w4.heap.size := by omega
      clear hc4 hg4 hf4 hj c0 c1 f0 f1
      go_wp2
      obtain ⟨k0, k1⟩ := keepT (Y := w4.setCell ⟨w2.heap.size, 1, none⟩ (.int .i64 y)) (g := w.heap.size) (u := .int .i64 n') (v := .int .i64 y) s0 s1
      exact bodyPost_ret (v := .agg #[.int .i64 n', .int .i64 y]) (by simp [results, Try.results109, go_sem, k0, k1]) rfl (anyEnd HNN.out HJ.out (HC4.out.set _ _ _ (by have := HBW.out; omega)) (grownOver HG4.out _ _ _ (by omega)) HB.out)
    · have t1 : (x == 1) = false := by rw [beq_eq_false_iff_ne]; exact h1
      obtain ⟨c0, c1, f0, f1⟩ := cells2 HF3.out
      obtain ⟨p0, p1, q0, q1⟩ := cells2 HX3.out
      have hszz : w.heap.size < w3.heap.size := by omega
      go_wp2
      obtain ⟨k0, k1⟩ := keepT (Y := w3) (g := w.heap.size) (u := .int .i64 n') (v := .int .i64 a) p0 p1
      exact bodyPost_ret (v := .agg #[.int .i64 n', .int .i64 a]) (by simp [results, Try.results109, go_sem, k0, k1]) rfl (anyEnd HNN.out HAA.out HC3.out HG3.out HB.out)

end Go.Proofs.Ytlmhdocfdpbhmaa

namespace Go.Proofs.Ytlmhdocfdpbhmaa
open Go.RowKit Plain
set_option linter.unusedVariables false
attribute [local go_sem ↓] Go.wp_at_zero Go.wp_at_succ

/-- A table and a number. -/
def VarOut (w : World) (e : Ending) (w' : World) : Prop :=
  ∃ n a i : Int, e = .returned (.tuple #[.agg #[.int .i64 n, .int .i64 a], .int .i64 i]) ∧ In64 n ∧ In64 a ∧ In64 i ∧ Below w.heap.size w w'

theorem varEnd {w wr : World} {n a i : Int} {u v : Value} (hn : In64 n) (ha : In64 a) (hi : In64 i) (hb : Below w.heap.size w wr) :
    VarOut w (.returned (.tuple #[.agg #[.int .i64 n, .int .i64 a], .int .i64 i])) ((wr.setCell ⟨w.heap.size, 0, none⟩ u).setCell ⟨w.heap.size, 1, none⟩ v) :=
  ⟨n, a, i, rfl, hn, ha, hi, bS (Nat.le_refl _) (bS (Nat.le_refl _) hb)⟩
theorem grownNew {w w1 w2 : World} {b : Nat} (h : Below w.heap.size w w1) (hg : w1.grownBy w2 (some b)) (hB : w.heap.size ≤ b) : Below w.heap.size w w2 :=
  h.grown hg h.size (fun k hk => by cases hk; exact hB)

theorem wrap_in (x : Int) : In64 (IntKind.i64.wrap x) := by unfold In64; rw [IntKind.wrap_i64]; omega
theorem resOver {X w' : World} {b c : Nat} {o : Obj} (h : X.heap[c]? = some o) (hg : X.drew.grownBy w' (some b)) (hne : b ≠ c) : w'.heap[c]? = some o :=
  blockOver (X := X.drew) h hg (Ne.symm hne)

end Go.Proofs.Ytlmhdocfdpbhmaa

namespace Go.Proofs.Ytlmhdocfdpbhmaa
open Go.RowKit Plain
set_option linter.unusedVariables false
attribute [local go_sem ↓] Go.wp_at_zero Go.wp_at_succ

/-- A table. -/
def OneOut (w : World) (e : Ending) (w' : World) : Prop := ∃ n a : Int, e = .returned (.agg #[.int .i64 n, .int .i64 a]) ∧ In64 n ∧ In64 a ∧ Below w.heap.size w w'

/-- A table and two numbers. -/
def TriOut (w : World) (e : Ending) (w' : World) : Prop :=
  ∃ n a i j : Int, e = .returned (.tuple #[.agg #[.int .i64 n, .int .i64 a], .int .i64 i, .int .i64 j]) ∧ In64 n ∧ In64 a ∧ In64 i ∧ In64 j ∧ Below w.heap.size w w'

end Go.Proofs.Ytlmhdocfdpbhmaa
