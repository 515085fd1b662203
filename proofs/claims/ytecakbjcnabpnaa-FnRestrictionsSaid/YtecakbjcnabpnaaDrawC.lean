/-
  What the draws of tables answer: some table, some number, whatever the code.
-/
import Derived.Test.YtecakbjcnabpnaaDrawA
import Derived.Test.YtecakbjcnabpnaaTabK
import Derived.Test.YtecakbjcnabpnaaTabH
import Derived.Test.YtecakbjcnabpnaaRow
import Derived.Test.YtecakbjcnabpnaaResA
namespace Go.Proofs.Ytecakbjcnabpnaa
open Go.RowKit Plain
set_option linter.unusedVariables false

theorem bits64_or (a b : Int) : In64 (Go.bits .or .i64 a b) := by
  show -9223372036854775808 ≤ IntKind.i64.wrap _ ∧ IntKind.i64.wrap _ ≤ 9223372036854775807
  rw [IntKind.wrap_i64]; omega
theorem bits64_and (a b : Int) : In64 (Go.bits .and .i64 a b) := by
  show -9223372036854775808 ≤ IntKind.i64.wrap _ ∧ IntKind.i64.wrap _ ≤ 9223372036854775807
  rw [IntKind.wrap_i64]; omega
theorem blockOver {X w' : World} {b c : Nat} {o : Obj} (h : X.heap[c]? = some o) (hg : X.grownBy w' (some b)) (hne : c ≠ b) : w'.heap[c]? = some o :=
  (hg.block c (lt_of_block h) (by simpa using hne)).trans h

/-- What a draw of a table of n variables answers. -/
def TabOut (P : Int → Prop) (b : Nat) (av : Value) (len : Nat) (w : World) (e : Ending) (w' : World) : Prop :=
  ∃ n a : Int, e = .returned (.agg #[.int .i64 n, .int .i64 a]) ∧ P n ∧ In64 a ∧ CurAt w' b av len ∧ w.grownBy w' (some b)

theorem drawnEnd {P : Int → Prop} {b len : Nat} {av : Value} {w wr : World} {n a : Int} {u v : Value} (hP : P n) (ha : In64 a) (hc : CurAt wr b av len) (hg : w.grownBy wr (some b)) (hb : b < w.heap.size) :
    TabOut P b av len w (.returned (.agg #[.int .i64 n, .int .i64 a])) ((wr.setCell ⟨w.heap.size, 0, none⟩ u).setCell ⟨w.heap.size, 1, none⟩ v) := by
  refine ⟨n, a, rfl, hP, ha, ?_, ?_⟩
  · obtain ⟨i, h, hi, hh⟩ := hc
    exact ⟨i, h, hi, by rw [heap_setCell_other _ _ _ _ (by dsimp only; omega), heap_setCell_other _ _ _ _ (by dsimp only; omega)]; exact hh⟩
  · refine ⟨hg.os, hg.tape, hg.output, by simpa using hg.size, fun k hk hne => ?_⟩
    rw [heap_setCell_other _ _ _ _ (by dsimp only; omega), heap_setCell_other _ _ _ _ (by dsimp only; omega)]
    exact hg.block k hk hne

set_option maxRecDepth 100000 in
set_option maxHeartbeats 4000000 in
theorem Draw.tab (b : Nat) (av : Value) (len : Nat) (n : Nat) (hn : n ≤ 5) (w : World) (hc : CurAt w b av len) (hs : SrcAt w b av len) :
    Calls Try.prog 105 #[.pointer (some ⟨b, 0, none⟩), .int .i64 n] w (TabOut (fun m => m = (n : Int)) b av len w) := by
  have hbl := hc.lt
  have HB := Lib.hid hbl
  have HS := Lib.hid hs
  have HC := Lib.hid hc
  have HN := Lib.hid hn
  have hn5 : (n : Int) ≤ 5 := by omega
  obtain ⟨hp1, hp2⟩ := two_pow_int n hn
  have HA : ∀ o : Obj, Hid (w.grownBy (w.alloc o) (some b)) := fun o => Lib.hid (World.grownBy_alloc w o (some b))
  clear hbl hc hs hn
  go_enter Try.func105, Try.ntmps105
  go_wp2_with fail
  refine (Cur.below b av len 6 (by omega) _ (HC.out.alloc _) (HS.out.grown (HA _).out)).mono ?_
  rintro e w1 ⟨z, rfl, ⟨hz0, hz6, _⟩, hc1, hg1⟩
  have hz : z < 6 := hz6 (by omega)
  have HX1 := Lib.hid (blockOver (heap_alloc_new w _) hg1 (by have := HB.out; omega))
  have HC1 := Lib.hid hc1
  have HG1 := Lib.hid (grownTrans (HA _).out hg1)
  clear hc1 hg1 hz6
  by_cases h0 : z = 0
  · subst h0
    go_wp2_with fail
    all_goals
      refine (Cur.below b av len _ (by omega) _ HC1.out (HS.out.grown HG1.out)).mono ?_
      rintro e w2 ⟨x, rfl, hx, hc2, hg2⟩
      obtain ⟨hx0, hx1, hx2⟩ := hx
      have hx5 : x ≤ 5 := by omega
      obtain ⟨k, rfl⟩ := Int.eq_ofNat_of_zero_le hx0
      have HX2 := Lib.hid (blockOver HX1.out hg2 (by have := HB.out; omega))
      have HC2 := Lib.hid hc2
      have HG2 := Lib.hid (grownTrans HG1.out hg2)
      have HK : Hid (k ≤ 5) := Lib.hid (by omega)
      have HW := Lib.hid (varW_bound k (2 ^ n) (by have := two_pow_le n HN.out; omega))
      clear hc2 hg2 hx1 hx2 hx5
      go_wp2_with fail
      refine (Tab.varM_loop n k HN.out HK.out _).mono ?_
      rintro e w3 ⟨rfl, rfl⟩
      generalize varW k (2 ^ n) = q at HW ⊢
      obtain ⟨c0, c1, f0, f1⟩ := cells2 (HX2.out)
      have hszE : w.heap.size < w2.heap.size := lt_of_block (HX2.out)
      have HHC := Lib.hid (HC2.out)
      have HHG := Lib.hid (HG2.out)
      have HB1 := Lib.hid (bits64_and ((q : Int)) 1)
      by_cases hn0 : n = 0
      · have hn0b : ((n : Int) == 0) = true := by rw [beq_iff_eq]; omega
        clear hn0
        go_wp2_with fail
        refine (Tab.fullM n HN.out _).mono ?_
        rintro e wE ⟨rfl, rfl⟩
        go_wp2
        obtain ⟨k0, k1⟩ := keepT (Y := w2) (g := w.heap.size) (u := .int .i64 (n : Int)) (v := .int .i64 (Go.bits .and .i64 (Go.bits .and .i64 ((q : Int)) 1) (fullN n : Int))) c0 c1
        exact bodyPost_ret (v := .agg #[.int .i64 (n : Int), .int .i64 (Go.bits .and .i64 (Go.bits .and .i64 ((q : Int)) 1) (fullN n : Int))]) (by simp [results, Try.results105, go_sem, k0, k1]) rfl (drawnEnd rfl (bits64_and _ _) HHC.out HHG.out HB.out)
      · have hn0b : ((n : Int) == 0) = false := by rw [beq_eq_false_iff_ne]; omega
        clear hn0
        go_wp2_with fail
        refine (Tab.fullM n HN.out _).mono ?_
        rintro e wE ⟨rfl, rfl⟩
        go_wp2
        obtain ⟨k0, k1⟩ := keepT (Y := w2) (g := w.heap.size) (u := .int .i64 (n : Int)) (v := .int .i64 (Go.bits .and .i64 ((q : Int)) (fullN n : Int))) c0 c1
        exact bodyPost_ret (v := .agg #[.int .i64 (n : Int), .int .i64 (Go.bits .and .i64 ((q : Int)) (fullN n : Int))]) (by simp [results, Try.results105, go_sem, k0, k1]) rfl (drawnEnd rfl (bits64_and _ _) HHC.out HHG.out HB.out)
  · have t0 : (z == 0) = false := by rw [beq_eq_false_iff_ne]; exact h0
    by_cases h1 : z = 1
    · subst h1
      go_wp2_with fail
      go_loopw [5, 6] (fun a' x wr => ∃ (v : Int) (y : Nat), x = .int .i64 (y : Int) ∧ a' = .int .i64 v ∧ (y : Int) ≤ 2 ^ n ∧ CurAt wr b av len ∧ w.grownBy wr (some b) ∧ wr.heap[w.heap.size]? = some (.cells #[.int .i64 0, .int .i64 0] 25 (0, 0))) (fun _ x _ => 32 - (intOf x).toNat)
      case atStart => exact ⟨0, 0, rfl, rfl, by omega, HC1.out, HG1.out, HX1.out⟩
      case round =>
        obtain ⟨v, y, rfl, rfl, hy, hcr, hgr, hxr⟩ := hrel
        have HCR := Lib.hid hcr
        have HGR := Lib.hid hgr
        have HXR := Lib.hid hxr
        clear hcr hgr hxr
        by_cases hlt : (y : Int) < 2 ^ n
        · have hpl := popN_lim y (by omega)
          by_cases hq : (n : Int) < 2 * (popN y : Int)
          · go_wp2_with fail
            refine (Tab.onesM y (by omega) _).mono ?_
            rintro e wE ⟨rfl, rfl⟩
            go_wp2_with fail
            go_roundw
            case rel => exact ⟨_, y + 1, by go_num, rfl, by omega, HCR.out, HGR.out, HXR.out⟩
            case measure => simp [intOf] <;> omega
          · go_wp2_with fail
            refine (Tab.onesM y (by omega) _).mono ?_
            rintro e wE ⟨rfl, rfl⟩
            go_wp2_with fail
            go_roundw
            case rel => exact ⟨_, y + 1, by go_num, rfl, by omega, HCR.out, HGR.out, HXR.out⟩
            case measure => simp [intOf] <;> omega
        · obtain ⟨c0, c1, f0, f1⟩ := cells2 (HXR.out)
          have hszE : w.heap.size < wr.heap.size := lt_of_block (HXR.out)
          have HHC := Lib.hid (HCR.out)
          have HHG := Lib.hid (HGR.out)
          have HB1 := Lib.hid (bits64_and (v) 1)
          by_cases hn0 : n = 0
          · have hn0b : ((n : Int) == 0) = true := by rw [beq_iff_eq]; omega
            clear hn0
            go_wp2_with fail
            refine (Tab.fullM n HN.out _).mono ?_
            rintro e wE ⟨rfl, rfl⟩
            go_wp2
            obtain ⟨k0, k1⟩ := keepT (Y := wr) (g := w.heap.size) (u := .int .i64 (n : Int)) (v := .int .i64 (Go.bits .and .i64 (Go.bits .and .i64 (v) 1) (fullN n : Int))) c0 c1
            exact bodyPost_ret (v := .agg #[.int .i64 (n : Int), .int .i64 (Go.bits .and .i64 (Go.bits .and .i64 (v) 1) (fullN n : Int))]) (by simp [results, Try.results105, go_sem, k0, k1]) rfl (drawnEnd rfl (bits64_and _ _) HHC.out HHG.out HB.out)
          · have hn0b : ((n : Int) == 0) = false := by rw [beq_eq_false_iff_ne]; omega
            clear hn0
            go_wp2_with fail
            refine (Tab.fullM n HN.out _).mono ?_
            rintro e wE ⟨rfl, rfl⟩
            go_wp2
            obtain ⟨k0, k1⟩ := keepT (Y := wr) (g := w.heap.size) (u := .int .i64 (n : Int)) (v := .int .i64 (Go.bits .and .i64 (v) (fullN n : Int))) c0 c1
            exact bodyPost_ret (v := .agg #[.int .i64 (n : Int), .int .i64 (Go.bits .and .i64 (v) (fullN n : Int))]) (by simp [results, Try.results105, go_sem, k0, k1]) rfl (drawnEnd rfl (bits64_and _ _) HHC.out HHG.out HB.out)
    · have t1 : (z == 1) = false := by rw [beq_eq_false_iff_ne]; exact h1
      by_cases h2 : z = 2
      · subst h2
        go_wp2_with fail
        go_loopw [5, 7] (fun a' x wr => ∃ (v : Int) (y : Nat), x = .int .i64 (y : Int) ∧ a' = .int .i64 v ∧ (y : Int) ≤ 2 ^ n ∧ CurAt wr b av len ∧ w.grownBy wr (some b) ∧ wr.heap[w.heap.size]? = some (.cells #[.int .i64 0, .int .i64 0] 25 (0, 0))) (fun _ x _ => 32 - (intOf x).toNat)
        case atStart => exact ⟨0, 0, rfl, rfl, by omega, HC1.out, HG1.out, HX1.out⟩
        case round =>
          obtain ⟨v, y, rfl, rfl, hy, hcr, hgr, hxr⟩ := hrel
          have HCR := Lib.hid hcr
          have HGR := Lib.hid hgr
          have HXR := Lib.hid hxr
          clear hcr hgr hxr
          by_cases hlt : (y : Int) < 2 ^ n
          · have hpl := popN_lim y (by omega)
            by_cases hq : (popN y : Int) % 2 = 1
            · go_wp2_with fail
              refine (Tab.onesM y (by omega) _).mono ?_
              rintro e wE ⟨rfl, rfl⟩
              go_wp2_with fail
              go_roundw
              case rel => exact ⟨_, y + 1, by go_num, rfl, by omega, HCR.out, HGR.out, HXR.out⟩
              case measure => simp [intOf] <;> omega
            · have hqb : ((popN y : Int) % 2 == 1) = false := by rw [beq_eq_false_iff_ne]; exact hq
              go_wp2_with fail
              refine (Tab.onesM y (by omega) _).mono ?_
              rintro e wE ⟨rfl, rfl⟩
              go_wp2_with fail
              go_roundw
              case rel => exact ⟨_, y + 1, by go_num, rfl, by omega, HCR.out, HGR.out, HXR.out⟩
              case measure => simp [intOf] <;> omega
          · obtain ⟨c0, c1, f0, f1⟩ := cells2 (HXR.out)
            have hszE : w.heap.size < wr.heap.size := lt_of_block (HXR.out)
            have HHC := Lib.hid (HCR.out)
            have HHG := Lib.hid (HGR.out)
            have HB1 := Lib.hid (bits64_and (v) 1)
            by_cases hn0 : n = 0
            · have hn0b : ((n : Int) == 0) = true := by rw [beq_iff_eq]; omega
              clear hn0
              go_wp2_with fail
              refine (Tab.fullM n HN.out _).mono ?_
              rintro e wE ⟨rfl, rfl⟩
              go_wp2
              obtain ⟨k0, k1⟩ := keepT (Y := wr) (g := w.heap.size) (u := .int .i64 (n : Int)) (v := .int .i64 (Go.bits .and .i64 (Go.bits .and .i64 (v) 1) (fullN n : Int))) c0 c1
              exact bodyPost_ret (v := .agg #[.int .i64 (n : Int), .int .i64 (Go.bits .and .i64 (Go.bits .and .i64 (v) 1) (fullN n : Int))]) (by simp [results, Try.results105, go_sem, k0, k1]) rfl (drawnEnd rfl (bits64_and _ _) HHC.out HHG.out HB.out)
            · have hn0b : ((n : Int) == 0) = false := by rw [beq_eq_false_iff_ne]; omega
              clear hn0
              go_wp2_with fail
              refine (Tab.fullM n HN.out _).mono ?_
              rintro e wE ⟨rfl, rfl⟩
              go_wp2
              obtain ⟨k0, k1⟩ := keepT (Y := wr) (g := w.heap.size) (u := .int .i64 (n : Int)) (v := .int .i64 (Go.bits .and .i64 (v) (fullN n : Int))) c0 c1
              exact bodyPost_ret (v := .agg #[.int .i64 (n : Int), .int .i64 (Go.bits .and .i64 (v) (fullN n : Int))]) (by simp [results, Try.results105, go_sem, k0, k1]) rfl (drawnEnd rfl (bits64_and _ _) HHC.out HHG.out HB.out)
      · have t2 : (z == 2) = false := by rw [beq_eq_false_iff_ne]; exact h2
        by_cases h3 : z = 3
        · subst h3
          go_wp2_with fail
          refine (Cur.below b av len _ (by omega) _ HC1.out (HS.out.grown HG1.out)).mono ?_
          rintro e w2 ⟨x, rfl, hx, hc2, hg2⟩
          obtain ⟨hx0, hx1, hx2⟩ := hx
          have hx5 : x ≤ 32 := by omega
          obtain ⟨k, rfl⟩ := Int.eq_ofNat_of_zero_le hx0
          have HX2 := Lib.hid (blockOver HX1.out hg2 (by have := HB.out; omega))
          have HC2 := Lib.hid hc2
          have HG2 := Lib.hid (grownTrans HG1.out hg2)
          clear hc2 hg2 hx1 hx2
          go_wp2_with fail
          go_loopw [5, 9] (fun a' x wr => ∃ (v : Int) (y : Nat), x = .int .i64 (y : Int) ∧ a' = .int .i64 v ∧ (y : Int) ≤ 2 ^ n ∧ CurAt wr b av len ∧ w.grownBy wr (some b) ∧ wr.heap[w.heap.size]? = some (.cells #[.int .i64 0, .int .i64 0] 25 (0, 0))) (fun _ x _ => 32 - (intOf x).toNat)
          case atStart => exact ⟨0, 0, rfl, rfl, by omega, HC2.out, HG2.out, HX2.out⟩
          case round =>
            obtain ⟨v, y, rfl, rfl, hy, hcr, hgr, hxr⟩ := hrel
            have HCR := Lib.hid hcr
            have HGR := Lib.hid hgr
            have HXR := Lib.hid hxr
            clear hcr hgr hxr
            by_cases hlt : (y : Int) < 2 ^ n
            · have hand := and64 y k (by omega) (by omega)
              by_cases hq : y &&& k = k
              · rw [hq] at hand
                go_wp2_with fail
                go_roundw
                case rel => exact ⟨_, y + 1, by go_num, rfl, by omega, HCR.out, HGR.out, HXR.out⟩
                case measure => simp [intOf] <;> omega
              · have hqb : (((y &&& k : Nat) : Int) == (k : Int)) = false := by rw [beq_eq_false_iff_ne]; omega
                go_wp2_with fail
                go_roundw
                case rel => exact ⟨_, y + 1, by go_num, rfl, by omega, HCR.out, HGR.out, HXR.out⟩
                case measure => simp [intOf] <;> omega
            · obtain ⟨c0, c1, f0, f1⟩ := cells2 (HXR.out)
              have hszE : w.heap.size < wr.heap.size := lt_of_block (HXR.out)
              have HHC := Lib.hid (HCR.out)
              have HHG := Lib.hid (HGR.out)
              have HB1 := Lib.hid (bits64_and (v) 1)
              by_cases hn0 : n = 0
              · have hn0b : ((n : Int) == 0) = true := by rw [beq_iff_eq]; omega
                clear hn0
                go_wp2_with fail
                refine (Tab.fullM n HN.out _).mono ?_
                rintro e wE ⟨rfl, rfl⟩
                go_wp2
                obtain ⟨k0, k1⟩ := keepT (Y := wr) (g := w.heap.size) (u := .int .i64 (n : Int)) (v := .int .i64 (Go.bits .and .i64 (Go.bits .and .i64 (v) 1) (fullN n : Int))) c0 c1
                exact bodyPost_ret (v := .agg #[.int .i64 (n : Int), .int .i64 (Go.bits .and .i64 (Go.bits .and .i64 (v) 1) (fullN n : Int))]) (by simp [results, Try.results105, go_sem, k0, k1]) rfl (drawnEnd rfl (bits64_and _ _) HHC.out HHG.out HB.out)
              · have hn0b : ((n : Int) == 0) = false := by rw [beq_eq_false_iff_ne]; omega
                clear hn0
                go_wp2_with fail
                refine (Tab.fullM n HN.out _).mono ?_
                rintro e wE ⟨rfl, rfl⟩
                go_wp2
                obtain ⟨k0, k1⟩ := keepT (Y := wr) (g := w.heap.size) (u := .int .i64 (n : Int)) (v := .int .i64 (Go.bits .and .i64 (v) (fullN n : Int))) c0 c1
                exact bodyPost_ret (v := .agg #[.int .i64 (n : Int), .int .i64 (Go.bits .and .i64 (v) (fullN n : Int))]) (by simp [results, Try.results105, go_sem, k0, k1]) rfl (drawnEnd rfl (bits64_and _ _) HHC.out HHG.out HB.out)
        · have t3 : (z == 3) = false := by rw [beq_eq_false_iff_ne]; exact h3
          go_wp2_with fail
          go_loopw [5, 10] (fun a' x wr => ∃ (v : Int) (y : Nat), x = .int .i64 (y : Int) ∧ a' = .int .i64 v ∧ (y : Int) ≤ 2 ^ n ∧ CurAt wr b av len ∧ w.grownBy wr (some b) ∧ wr.heap[w.heap.size]? = some (.cells #[.int .i64 0, .int .i64 0] 25 (0, 0))) (fun _ x _ => 32 - (intOf x).toNat)
          case atStart => exact ⟨0, 0, rfl, rfl, by omega, HC1.out, HG1.out, HX1.out⟩
          case round =>
            obtain ⟨v, y, rfl, rfl, hy, hcr, hgr, hxr⟩ := hrel
            have HCR := Lib.hid hcr
            have HGR := Lib.hid hgr
            have HXR := Lib.hid hxr
            clear hcr hgr hxr
            by_cases hlt : (y : Int) < 2 ^ n
            · go_wp2_with fail
              refine (Cur.below b av len 2 (by omega) _ HCR.out (HS.out.grown HGR.out)).mono ?_
              rintro e w2 ⟨x, rfl, ⟨hx0, hx2, _⟩, hc2, hg2⟩
              have hx1 : x ≤ 1 := by have := hx2 (by omega); omega
              have HX2 := Lib.hid (blockOver HXR.out hg2 (by have := HB.out; omega))
              have HC2 := Lib.hid hc2
              have HG2 := Lib.hid (grownTrans HGR.out hg2)
              clear hc2 hg2 hx2
              go_wp2_with fail
              go_roundw
              case rel => exact ⟨_, y + 1, by go_num, rfl, by omega, HC2.out, HG2.out, HX2.out⟩
              case measure => simp [intOf] <;> omega
            · obtain ⟨c0, c1, f0, f1⟩ := cells2 (HXR.out)
              have hszE : w.heap.size < wr.heap.size := lt_of_block (HXR.out)
              have HHC := Lib.hid (HCR.out)
              have HHG := Lib.hid (HGR.out)
              have HB1 := Lib.hid (bits64_and (v) 1)
              by_cases hn0 : n = 0
              · have hn0b : ((n : Int) == 0) = true := by rw [beq_iff_eq]; omega
                clear hn0
                go_wp2_with fail
                refine (Tab.fullM n HN.out _).mono ?_
                rintro e wE ⟨rfl, rfl⟩
                go_wp2
                obtain ⟨k0, k1⟩ := keepT (Y := wr) (g := w.heap.size) (u := .int .i64 (n : Int)) (v := .int .i64 (Go.bits .and .i64 (Go.bits .and .i64 (v) 1) (fullN n : Int))) c0 c1
                exact bodyPost_ret (v := .agg #[.int .i64 (n : Int), .int .i64 (Go.bits .and .i64 (Go.bits .and .i64 (v) 1) (fullN n : Int))]) (by simp [results, Try.results105, go_sem, k0, k1]) rfl (drawnEnd rfl (bits64_and _ _) HHC.out HHG.out HB.out)
              · have hn0b : ((n : Int) == 0) = false := by rw [beq_eq_false_iff_ne]; omega
                clear hn0
                go_wp2_with fail
                refine (Tab.fullM n HN.out _).mono ?_
                rintro e wE ⟨rfl, rfl⟩
                go_wp2
                obtain ⟨k0, k1⟩ := keepT (Y := wr) (g := w.heap.size) (u := .int .i64 (n : Int)) (v := .int .i64 (Go.bits .and .i64 (v) (fullN n : Int))) c0 c1
                exact bodyPost_ret (v := .agg #[.int .i64 (n : Int), .int .i64 (Go.bits .and .i64 (v) (fullN n : Int))]) (by simp [results, Try.results105, go_sem, k0, k1]) rfl (drawnEnd rfl (bits64_and _ _) HHC.out HHG.out HB.out)
end Go.Proofs.Ytecakbjcnabpnaa
