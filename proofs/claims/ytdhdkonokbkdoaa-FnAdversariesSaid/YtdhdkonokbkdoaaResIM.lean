/-
  Orders of variables in the program: each counted once.
  PermuteTable of the program.
  PermuteTable of the model.
-/
import Derived.Test.YtdhdkonokbkdoaaRowB
import Derived.Test.YtdhdkonokbkdoaaPlainO
import Derived.Test.YtdhdkonokbkdoaaResE
import Derived.Laws.StructEq
import Derived.Laws.Tables
import Derived.Laws.Cover2

namespace Go.Proofs.Ytdhdkonokbkdoaa
open Go.RowKit Plain
set_option linter.unusedVariables false

def oneB (n j : Nat) : Value := .int .i64 (if j < n then 1 else 0)
def onceA (k : Nat) : Array Value := #[oneB k 0, oneB k 1, oneB k 2, oneB k 3, oneB k 4]
def cntV (l : List Int) (k : Nat) (j : Int) : Value := .int .i64 (cntK l k j : Int)
def cntA (l : List Int) (k : Nat) : Array Value := #[cntV l k 0, cntV l k 1, cntV l k 2, cntV l k 3, cntV l k 4]
theorem five {k : Nat} (h : k < 5) : k = 0 ∨ k = 1 ∨ k = 2 ∨ k = 3 ∨ k = 4 := by omega
theorem onceA_get {k : Nat} (h : k < 5) : (onceA k)[k]? = some (.int .i64 0) := by
  rcases five h with rfl | rfl | rfl | rfl | rfl <;> rfl
theorem onceA_set {k : Nat} (h : k < 5) : (onceA k).setIfInBounds k (.int .i64 1) = onceA (k + 1) := by
  rcases five h with rfl | rfl | rfl | rfl | rfl <;> rfl
theorem cntA_get (l : List Int) (k : Nat) {j : Nat} (h : j < 5) : (cntA l k)[j]? = some (.int .i64 (cntK l k (j : Int) : Int)) := by
  rcases five h with rfl | rfl | rfl | rfl | rfl <;> rfl
theorem cntV_same {l : List Int} {k : Nat} {i : Int} (h : k < l.length) (hne : l.getD k 0 ≠ i) : cntV l (k + 1) i = cntV l k i := by
  unfold cntV; rw [cntK_succ h, if_neg hne, Nat.add_zero]
theorem cntV_up {l : List Int} {k : Nat} {i : Int} (h : k < l.length) (he : l.getD k 0 = i) : cntV l (k + 1) i = .int .i64 ((cntK l k i : Int) + 1) := by
  unfold cntV; rw [cntK_succ h, if_pos he]; rfl
theorem cntA_set {l : List Int} {k j : Nat} (h : k < l.length) (hj : j < 5) (he : l.getD k 0 = (j : Int)) : (cntA l k).setIfInBounds j (.int .i64 ((cntK l k (j : Int) : Int) + 1)) = cntA l (k + 1) := by
  rcases five hj with rfl | rfl | rfl | rfl | rfl <;> unfold cntA
  · rw [cntV_up (i := 0) h he, cntV_same (i := 1) h (by omega), cntV_same (i := 2) h (by omega), cntV_same (i := 3) h (by omega), cntV_same (i := 4) h (by omega)]; rfl
  · rw [cntV_up (i := 1) h he, cntV_same (i := 0) h (by omega), cntV_same (i := 2) h (by omega), cntV_same (i := 3) h (by omega), cntV_same (i := 4) h (by omega)]; rfl
  · rw [cntV_up (i := 2) h he, cntV_same (i := 1) h (by omega), cntV_same (i := 0) h (by omega), cntV_same (i := 3) h (by omega), cntV_same (i := 4) h (by omega)]; rfl
  · rw [cntV_up (i := 3) h he, cntV_same (i := 1) h (by omega), cntV_same (i := 2) h (by omega), cntV_same (i := 0) h (by omega), cntV_same (i := 4) h (by omega)]; rfl
  · rw [cntV_up (i := 4) h he, cntV_same (i := 1) h (by omega), cntV_same (i := 2) h (by omega), cntV_same (i := 3) h (by omega), cntV_same (i := 0) h (by omega)]; rfl
theorem cells5 {w : World} {b : Nat} {x0 x1 x2 x3 x4 : Value} {T : TypeId} (h : w.heap[b]? = some (.cells #[x0, x1, x2, x3, x4] T (0, 0))) :
    w.cell? ⟨b, 0, none⟩ = some x0 ∧ w.cell? ⟨b, 1, none⟩ = some x1 ∧ w.cell? ⟨b, 2, none⟩ = some x2 ∧ w.cell? ⟨b, 3, none⟩ = some x3 ∧ w.cell? ⟨b, 4, none⟩ = some x4 := by
  refine ⟨?_, ?_, ?_, ?_, ?_⟩ <;> (rw [cell_of_row w b _ _ _ (0, 0) h]; rfl)

set_option maxHeartbeats 2000000 in
/-- Two arrays of five ints, compared. -/
theorem eq5 (a0 a1 a2 a3 a4 b0 b1 b2 b3 b4 : Int) (w : World) :
    (Op.equalIn 10000 65 (.agg #[.int .i64 a0, .int .i64 a1, .int .i64 a2, .int .i64 a3, .int .i64 a4]) (.agg #[.int .i64 b0, .int .i64 b1, .int .i64 b2, .int .i64 b3, .int .i64 b4])).run Try.prog w = .ok (a0 == b0 && (a1 == b1 && (a2 == b2 && (a3 == b3 && a4 == b4)))) w := by
  have u3 := Try.underlying3
  have a3' := Try.isAgg3
  have z3 := Try.sizeOf3
  rw [show (10000 : Nat) = 9999 + 1 from rfl, Op.equalIn]
  simp only [Sem.run_bind, run_underlying Try.underlying65, Result.andThen_ok]
  simp only [Std.Legacy.Range.forIn_eq_forIn_range', Std.Legacy.Range.size, Nat.sub_zero, Nat.add_sub_cancel, Nat.div_one, List.range'_succ, List.range'_zero, List.forIn_cons, List.forIn_nil]
  go_simp
  by_cases h0 : a0 = b0 <;> by_cases h1 : a1 = b1 <;> by_cases h2 : a2 = b2 <;> by_cases h3 : a3 = b3 <;> by_cases h4 : a4 = b4 <;> simp [h0, h1, h2, h3, h4]

set_option maxRecDepth 100000 in
set_option maxHeartbeats 2000000 in
theorem Tab.ord (n : Nat) (hn : n ≤ 5) (v : Value) (l : List Int) (w : World) (h : IntsIn w v l) :
    Calls Try.prog 31 #[.int .i64 n, v] w fun e w' => e = .returned (.bool (permB l n)) ∧ Below w.heap.size w w' := by
  have HI := Lib.hid h
  have HN := Lib.hid hn
  obtain ⟨a, cap, rfl, hl, hb, hc⟩ := h
  have hn5 : (n : Int) ≤ 5 := by omega
  clear hc hb hn
  go_enter Try.func31, Try.ntmps31
  go_wp2
  go_loopw [7, 11] (fun _ i wr => ∃ k : Nat, i = .int .i64 (k : Int) ∧ k ≤ n ∧ wr.heap[w.heap.size]? = some (.cells (cntA l 0) 65 (0, 0)) ∧ wr.heap[w.heap.size + 1]? = some (.cells (onceA k) 65 (0, 0)) ∧ Below w.heap.size w wr) (fun _ i _ => n - (intOf i).toNat)
  case atStart => exact ⟨0, rfl, by omega, heap_alloc2_old w _ _, heap_alloc2_new w _ _, ((Below.refl _ _).alloc (Nat.le_refl _) _).alloc (by simp) _⟩
  case round =>
    obtain ⟨k, rfl, hk, hx0, hx1, hbel⟩ := hrel
    have HX0 := Lib.hid hx0
    have HX1 := Lib.hid hx1
    have HBEL := Lib.hid hbel
    have hsz : w.heap.size + 1 < wr.heap.size := lt_of_block hx1
    by_cases hlt : k < n
    · have hk5 : k < 5 := by have := HN.out; omega
      have hcell : wr.cell? ⟨w.heap.size + 1, k, none⟩ = some (.int .i64 0) := (cell_of_row wr _ k _ _ (0, 0) hx1).trans (onceA_get hk5)
      have hfree : wr.frozen? ⟨w.heap.size + 1, k, none⟩ = false := frozen_of_row wr _ k _ _ hx1
      have HSET := Lib.hid (onceA_set hk5)
      have hkz : (k : Int) < (n : Int) := by omega
      have hk5z : (k : Int) < 5 := by omega
      clear hx0 hx1 hbel
      go_wp2
      go_roundw
      case rel => exact ⟨k + 1, by go_num, by omega, by rw [heap_setCell_other _ _ _ _ (by simp)]; exact HX0.out, by rw [← HSET.out]; exact heap_setCell_same wr _ k _ _ _ HX1.out, bS (by simp) HBEL.out⟩
      case measure => simp [intOf] <;> omega
    · obtain rfl : k = n := by omega
      clear hx0 hx1 hbel
      obtain ⟨wo, rfl⟩ : ∃ wo : World, wo = wr := ⟨_, rfl⟩
      go_wp2
      go_loopw [9, 19] (fun _ i wr => ∃ m : Nat, i = .int .i64 (m : Int) ∧ m ≤ l.length ∧ (∀ i, i < m → inR k (l.getD i 0) = true) ∧ wr.heap[w.heap.size]? = some (.cells (cntA l m) 65 (0, 0)) ∧ wr.heap[w.heap.size + 1]? = some (.cells (onceA k) 65 (0, 0)) ∧ Below w.heap.size w wr) (fun _ i _ => l.length - (intOf i).toNat)
      case atStart => exact ⟨0, rfl, by omega, fun i hi => absurd hi (by omega), HX0.out, HX1.out, HBEL.out⟩
      case round =>
        obtain ⟨m, rfl, hm, hin, hy0, hy1, hbel⟩ := hrel
        have HY0 := Lib.hid hy0
        have HY1 := Lib.hid hy1
        have HIN := Lib.hid hin
        have HBR := Lib.hid hbel
        have hszr : w.heap.size + 1 < wr.heap.size := lt_of_block hy1
        obtain ⟨a', cap', he, _, hbd, hrd⟩ := HI.out
        simp only [Value.slice.injEq, true_and] at he
        obtain ⟨rfl, rfl⟩ := he
        by_cases hlt : m < l.length
        · obtain ⟨b, off, rfl, hbw, hcl⟩ := hrd (by omega)
          have hcp : wr.cell? ⟨b, off + m, none⟩ = some (.int .i64 (l.getD m 0)) := (hbel.cell (p := ⟨b, off + m, none⟩) hbw).trans (hcl m hlt)
          have hmz : (m : Int) < (l.length : Int) := by omega
          clear hy0 hrd hcl hbd
          cases hr : inR k (l.getD m 0) with
          | true =>
            have hp := pAt_int hr
            obtain ⟨hp1, hp2⟩ := hp
            have hj5 : pAt l m < 5 := by have := HN.out; omega
            have HSET := Lib.hid (cntA_set hlt hj5 hp1.symm)
            have hcc : wr.cell? ⟨w.heap.size, pAt l m, none⟩ = some (.int .i64 (cntK l m ((pAt l m : Nat) : Int) : Int)) := (cell_of_row wr _ _ _ _ (0, 0) HY0.out).trans (cntA_get l m hj5)
            have hfree : wr.frozen? ⟨w.heap.size, pAt l m, none⟩ = false := frozen_of_row wr _ _ _ _ HY0.out
            have hcb := cntK_le l m ((pAt l m : Nat) : Int)
            have HIN' : Hid (∀ i, i < m + 1 → inR k (l.getD i 0) = true) := Lib.hid (by
              intro i hi
              rcases (show i < m ∨ i = m by omega) with h | rfl
              · exact HIN.out i h
              · exact hr)
            rw [← hp1] at hcp
            generalize pAt l m = j at HSET hcc hfree hcb hp2 hj5 hcp
            generalize cntK l m (j : Int) = c at HSET hcc hcb
            have hjz : (j : Int) < (k : Int) := by omega
            have hj5z : (j : Int) < 5 := by omega
            have hcz : (c : Int) ≤ 2000000 := by omega
            clear hy1 hbel hin hp1 hr
            go_wp2_with fail
            refine (Tab.isVar_yes _ _ ⟨by omega, hjz⟩ _).mono ?_
            rintro e w2 ⟨rfl, rfl⟩
            go_wp2
            go_roundw
            case rel => exact ⟨m + 1, by go_num, by omega, HIN'.out, by rw [← HSET.out]; exact heap_setCell_same wr _ j _ _ _ HY0.out, by rw [heap_setCell_other _ _ _ _ (by simp)]; exact HY1.out, bS (by simp) HBR.out⟩
            case measure => simp [intOf] <;> omega
          | false =>
            have HNO : Hid (permB l k = false) := Lib.hid (by
              rw [Bool.eq_false_iff]
              intro hpp
              have := (permB_iff.1 hpp).2.1 m hlt
              rw [hr] at this
              cases this)
            have HV : Hid (¬ (0 ≤ l.getD m 0 ∧ l.getD m 0 < (k : Int))) := Lib.hid (fun h => by rw [inR_iff.2 h] at hr; cases hr)
            clear hy1 hbel hin hr
            generalize l.getD m 0 = x at hcp HV
            go_wp2_with fail
            refine (Tab.isVar_no _ _ HV.out _).mono ?_
            rintro e w2 ⟨rfl, rfl⟩
            go_wp2
            go_ret
            exact ⟨by rw [HNO.out]; rfl, HBR.out⟩
        · obtain rfl : m = l.length := by omega
          have HC := Lib.hid (perm_count l k HN.out HIN.out)
          obtain ⟨c0, c1, c2, c3, c4⟩ := cells5 HY0.out
          obtain ⟨d0, d1, d2, d3, d4⟩ := cells5 HY1.out
          clear hy0 hy1 hbel hin hrd hbd
          have heq : ∀ W : World, (Op.equalIn 10000 65 (.agg #[cntV l l.length 0, cntV l l.length 1, cntV l l.length 2, cntV l l.length 3, cntV l l.length 4]) (.agg #[oneB k 0, oneB k 1, oneB k 2, oneB k 3, oneB k 4])).run Try.prog W = .ok (permB l k) W := by
            intro W
            unfold cntV oneB
            rw [eq5]
            congr 1
            rw [Bool.eq_iff_iff, HC.out]
            simp only [Bool.and_eq_true, beq_iff_eq, cntK_all]
            constructor
            · rintro ⟨e0, e1, e2, e3, e4⟩ j hj
              rcases five hj with rfl | rfl | rfl | rfl | rfl <;> simp only [Int.cast_ofNat_Int] <;> split <;> simp_all <;> omega
            · intro hh
              have e0 := hh 0 (by omega); have e1 := hh 1 (by omega); have e2 := hh 2 (by omega); have e3 := hh 3 (by omega); have e4 := hh 4 (by omega)
              simp only [Int.cast_ofNat_Int] at e0 e1 e2 e3 e4
              rw [e0, e1, e2, e3, e4]
              refine ⟨?_, ?_, ?_, ?_, ?_⟩ <;> split <;> rfl
          go_wp2
          go_ret
          exact ⟨rfl, HBR.out⟩

end Go.Proofs.Ytdhdkonokbkdoaa

namespace Go.Proofs.Ytdhdkonokbkdoaa
open Go.RowKit Plain
set_option linter.unusedVariables false

/-- What PermuteTable answers. -/
def Plain.perT (n a : Int) (l : List Int) : Int × Int × Bool :=
  if isT n a = true ∧ permB l n.toNat = true then (n, (perW n.toNat a.toNat l : Int), true) else (0, 0, false)
theorem perT_yes {n a : Nat} {l : List Int} (ht : isT n a = true) (hp : permB l n = true) : perT n a l = ((n : Int), (perW n a l : Int), true) := by
  unfold perT; rw [if_pos ⟨ht, hp⟩]; rfl
theorem perT_no {n a : Int} {l : List Int} (h : ¬ (isT n a = true ∧ permB l n.toNat = true)) : perT n a l = (0, 0, false) := if_neg h

end Go.Proofs.Ytdhdkonokbkdoaa

namespace Go.Proofs.Ytdhdkonokbkdoaa
open Go.RowKit Plain
set_option linter.unusedVariables false

/-- What the model's test has found behind k numbers of the list. -/
def Plain.distB (l : List Int) (n k : Nat) : Prop := (∀ i, i < k → inR n (l.getD i 0) = true) ∧ ∀ i, i < k → ∀ j, j < i → l.getD j 0 ≠ l.getD i 0

set_option maxRecDepth 100000 in
set_option maxHeartbeats 1000000 in
theorem Tab.ordM (n : Nat) (hn : n ≤ 5) (ad : Option Addr) (cl cap : Nat) (l : List Int) (w : World) (h : IntsIn w (.slice ad cl cap) l) :
    Calls Try.prog 35 #[.slice ad cl cap, .int .i64 n] w fun e w' => e = .returned (.bool (permB l n)) ∧ Below w.heap.size w w' := by
  obtain ⟨a', cap', he, hl, hbd, hrd⟩ := h
  simp only [Value.slice.injEq] at he
  obtain ⟨rfl, rfl, rfl⟩ := he
  have HRD := Lib.hid hrd
  have HN := Lib.hid hn
  have hn5 : (n : Int) ≤ 5 := by omega
  clear hrd hbd hn
  go_enter Try.func35, Try.ntmps35
  go_wp2
  go_loopw [5, 6] (fun i _ wr => ∃ k m : Nat, i = .int .i64 (k : Int) ∧ k ≤ l.length ∧ distB l n k ∧ wr = w.drewN m) (fun i _ _ => l.length - (intOf i).toNat)
  case atStart => exact ⟨0, 0, rfl, by omega, ⟨fun i hi => absurd hi (by omega), fun i hi => absurd hi (by omega)⟩, rfl⟩
  case round =>
    obtain ⟨k, q, rfl, hk, hd, rfl⟩ := hrel
    have HD := Lib.hid hd
    clear hd
    by_cases hlt : k < l.length
    · obtain ⟨b, off, rfl, hbw, hcl⟩ := HRD.out (by omega)
      have HCL := Lib.hid hcl
      have hck := hcl k hlt
      have hkz : (k : Int) < (l.length : Int) := by omega
      clear hcl
      cases hr : inR n (l.getD k 0) with
      | false =>
        have HNO : Hid (permB l n = false) := Lib.hid (by
          rw [Bool.eq_false_iff]
          intro hpp
          have := (permB_iff.1 hpp).2.1 k hlt
          rw [hr] at this
          cases this)
        have HV : Hid (¬ (0 ≤ l.getD k 0 ∧ l.getD k 0 ≤ (n : Int) - 1)) := Lib.hid (fun h => by rw [inR_iff.2 ⟨h.1, by omega⟩] at hr; cases hr)
        clear hr
        generalize l.getD k 0 = x at hck HV
        go_wp2_with fail
        refine (Widths.in_no _ _ _ HV.out _).mono ?_
        rintro e w2 ⟨rfl, rfl⟩
        go_wp2
        go_ret
        exact ⟨by rw [HNO.out]; rfl, below_drewN (Below.refl _ _) _⟩
      | true =>
        have HR := Lib.hid hr
        have HV := Lib.hid (inR_iff.1 hr)
        have HVV : Hid (0 ≤ l.getD k 0 ∧ l.getD k 0 ≤ (n : Int) - 1) := Lib.hid (by have := HV.out; omega)
        clear hr
        generalize hx : l.getD k 0 = x at hck HVV
        have HX := Lib.hid hx
        clear hx
        go_wp2_with fail
        refine (Widths.in_yes _ _ _ HVV.out _).mono ?_
        rintro e w2 ⟨rfl, rfl⟩
        go_wp2
        obtain ⟨wo, hwo⟩ : ∃ wo : World, wo = w.drewN q := ⟨_, rfl⟩
        go_loopw [6] (fun j wr => ∃ m p : Nat, j = .int .i64 (m : Int) ∧ m ≤ k ∧ (∀ j, j < m → l.getD j 0 ≠ x) ∧ wr = w.drewN p) (fun j _ => k - (intOf j).toNat)
        case atStart => exact ⟨0, q, rfl, by omega, fun j hj => absurd hj (by omega), rfl⟩
        case round =>
          obtain ⟨m, p, rfl, hm, hne, rfl⟩ := hrel
          have HNE := Lib.hid hne
          clear hne hwo
          by_cases hlt2 : m < k
          · have hcm := HCL.out m (by omega)
            have hmz : (m : Int) < (k : Int) := by omega
            have hml : (m : Int) < (l.length : Int) := by omega
            by_cases heq : l.getD m 0 = x
            · have HNO : Hid (permB l n = false) := Lib.hid (by
                rw [Bool.eq_false_iff]
                intro hpp
                exact (permB_iff.1 hpp).2.2 k hlt m hlt2 (by rw [heq, HX.out]))
              rw [heq] at hcm
              clear heq
              go_wp2
              go_quiet (fail)
              go_wp2
              go_ret
              exact ⟨by rw [HNO.out]; rfl, below_drewN (below_drewN (Below.refl _ _) _) _⟩
            · have HNE' : Hid (∀ j, j < m + 1 → l.getD j 0 ≠ x) := Lib.hid (by
                intro j hj
                rcases (show j < m ∨ j = m by omega) with h | rfl
                · exact HNE.out j h
                · exact heq)
              have hneb : (l.getD m 0 == x) = false := by rw [beq_eq_false_iff_ne]; exact heq
              clear heq
              generalize l.getD m 0 = y at hcm hneb
              go_wp2
              go_quiet (fail)
              go_wp2
              go_roundw
              case rel => exact ⟨m + 1, _, by go_num, by omega, HNE'.out, rfl⟩
              case measure => simp [intOf] <;> omega
          · obtain rfl : m = k := by omega
            have HD' : Hid (distB l n (m + 1)) := Lib.hid ⟨by
              intro i hi
              rcases (show i < m ∨ i = m by omega) with h | rfl
              · exact HD.out.1 i h
              · exact HR.out, by
              intro i hi j hj
              rcases (show i < m ∨ i = m by omega) with h | rfl
              · exact HD.out.2 i h j hj
              · rw [HX.out]; exact HNE.out j hj⟩
            go_wp2
            go_roundw
            case rel => exact ⟨m + 1, p, by go_num, by omega, HD'.out, rfl⟩
            case measure => simp [intOf] <;> omega
    · obtain rfl : k = l.length := by omega
      have HB : Hid (permB l n = decide ((l.length : Int) = (n : Int))) := Lib.hid (by
        unfold permB
        congr 1
        rw [eq_iff_iff]
        exact ⟨fun h => by omega, fun h => ⟨by omega, HD.out.1, HD.out.2⟩⟩)
      go_wp2
      go_ret
      refine ⟨ret_bool ?_, below_drewN (Below.refl _ _) _⟩
      rw [HB.out]; rfl

end Go.Proofs.Ytdhdkonokbkdoaa
