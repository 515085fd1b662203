/-
  Orders of variables in the program: each counted once.
  PermuteTable of the program.
  PermuteTable of the model.
-/
import Derived.Test.YthdcjldmafhcjaaRowB
import Derived.Test.YthdcjldmafhcjaaPlainO
import Derived.Test.YthdcjldmafhcjaaResE
import Derived.Laws.StructEq
import Derived.Laws.Tables
import Derived.Laws.Cover2

namespace Go.Proofs.Ythdcjldmafhcjaa
open Go.RowKit Plain
set_option linter.unusedVariables false

def oneB (n j : Nat) : Value := .int .i64 (if j < n then 1 else 0)
def onceA (k : Nat) : Array Value := #[oneB k 0, oneB k 1, oneB k 2, oneB k 3, oneB k 4]
def cntV (l : List Int) (k : Nat) (j : Int) : Value := .int .i64 (cntK l k j : Int)
def cntA (l : List Int) (k : Nat) : Array Value := #[cntV l k 0, cntV l k 1, cntV l k 2, cntV l k 3, cntV l k 4]
theorem five {k : Nat} (h : k < 5) : k = 0 ∨ k = 1 ∨ k = 2 ∨ k = 3 ∨ k = 4 := by omega
theorem onceA_get {k : Nat} (h : k < 5) : (onceA k)[k]? = some (.int .i64 0) := by
  rcases five h with rfl | rfl | rfl | rfl | rfl <;> rfl
theorem onceA_set {k : Nat} (h : k < 5) : (onceA k).setIfInBounds k (.int .i64 1) = onceA (k + 1) := by
  rcases five h with rfl | rfl | rfl | rfl | rfl <;> rfl
theorem cntA_get (l : List Int) (k : Nat) {j : Nat} (h : j < 5) : (cntA l k)[j]? = some (.int .i64 (cntK l k (j : Int) : Int)) := by
  rcases five h with rfl | rfl | rfl | rfl | rfl <;> rfl
theorem cntV_same {l : List Int} {k : Nat} {i : Int} (h : k < l.length) (hne : l.getD k 0 ≠ i) : cntV l (k + 1) i = cntV l k i := by
  unfold cntV; rw [cntK_succ h, if_neg hne, Nat.add_zero]
theorem cntV_up {l : List Int} {k : Nat} {i : Int} (h : k < l.length) (he : l.getD k 0 = i) : cntV l (k + 1) i = .int .i64 ((cntK l k i : Int) + 1) := by
  unfold cntV; rw [cntK_succ h, if_pos he]; rfl
theorem cntA_set {l : List Int} {k j : Nat} (h : k < l.length) (hj : j < 5) (he : l.getD k 0 = (j : Int)) : (cntA l k).setIfInBounds j (.int .i64 ((cntK l k (j : Int) : Int) + 1)) = cntA l (k + 1) := by
  rcases five hj with rfl | rfl | rfl | rfl | rfl <;> unfold cntA
  · rw [cntV_up (i := 0) h he, cntV_same (i := 1) h (by omega), cntV_same (i := 2) h (by omega), cntV_same (i := 3) h (by omega), cntV_same (i := 4) h (by omega)]; rfl
  · rw [cntV_up (i := 1) h he, cntV_same (i := 0) h (by omega), cntV_same (i := 2) h (by omega), cntV_same (i := 3) h (by omega), cntV_same (i := 4) h (by omega)]; rfl
  · rw [cntV_up (i := 2) h he, cntV_same (i := 1) h (by omega), cntV_same (i := 0) h (by omega), cntV_same (i := 3) h (by omega), cntV_same (i := 4) h (by omega)]; rfl
  · rw [cntV_up (i := 3) h he, cntV_same (i := 1) h (by omega), cntV_same (i := 2) h (by omega), cntV_same (i := 0) h (by omega), cntV_same (i := 4) h (by omega)]; rfl
  · rw [cntV_up (i := 4) h he, cntV_same (i := 1) h (by omega), cntV_same (i := 2) h (by omega), cntV_same (i := 3) h (by omega), cntV_same (i := 0) h (by omega)]; rfl
theorem cells5 {w : World} {b : Nat} {x0 x1 x2 x3 x4 : Value} {T : TypeId} (h : w.heap[b]? = some (.cells #[x0, x1, x2, x3, x4] T (0, 0))) :
    w.cell? ⟨b, 0, none⟩ = some x0 ∧ w.cell? ⟨b, 1, none⟩ = some x1 ∧ w.cell? ⟨b, 2, none⟩ = some x2 ∧ w.cell? ⟨b, 3, none⟩ = some x3 ∧ w.cell? ⟨b, 4, none⟩ = some x4 := by
  refine ⟨?_, ?_, ?_, ?_, ?_⟩ <;> (rw [cell_of_row w b _ _ _ (0, 0) h]; rfl)

set_option maxHeartbeats 2000000 in
/-- Two arrays of five ints, compared. -/
theorem eq5 (a0 a1 a2 a3 a4 b0 b1 b2 b3 b4 : Int) (w : World) :
    (Op.equalIn 10000 113 (.agg #[.int .i64 a0, .int .i64 a1, .int .i64 a2, .int .i64 a3, .int .i64 a4]) (.agg #[.int .i64 b0, .int .i64 b1, .int .i64 b2, .int .i64 b3, .int .i64 b4])).run Try.prog w = .ok (a0 == b0 && (a1 == b1 && (a2 == b2 && (a3 == b3 && a4 == b4)))) w := by
  have u3 := Try.underlying3
  have a3' := Try.isAgg3
  have z3 := Try.sizeOf3
  rw [show (10000 : Nat) = 9999 + 1 from rfl, Op.equalIn]
  simp only [Sem.run_bind, run_underlying Try.underlying113, Result.andThen_ok]
  simp only [Std.Legacy.Range.forIn_eq_forIn_range', Std.Legacy.Range.size, Nat.sub_zero, Nat.add_sub_cancel, Nat.div_one, List.range'_succ, List.range'_zero, List.forIn_cons, List.forIn_nil]
  go_simp
  by_cases h0 : a0 = b0 <;> by_cases h1 : a1 = b1 <;> by_cases h2 : a2 = b2 <;> by_cases h3 : a3 = b3 <;> by_cases h4 : a4 = b4 <;> simp [h0, h1, h2, h3, h4]

set_option maxRecDepth 100000 in
set_option maxHeartbeats 2000000 in
theorem Tab.ord (n : Nat) (hn : n ≤ 5) (v : Value) (l : List Int) (w : World) (h : IntsIn w v l) :
    Calls Try.prog 104 #[.int .i64 n, v] w fun e w' => e = .returned (.bool (permB l n)) ∧ Below w.heap.size w w' := by
  have HI := Lib.hid h
  have HN := Lib.hid hn
  obtain ⟨a, cap, rfl, hl, hb, hc⟩ := h
  have hn5 : (n : Int) ≤ 5 := by omega
  clear hc hb hn
  go_enter Try.func104, Try.ntmps104
  go_wp2
  go_loopw [7, 11] (fun _ i wr => ∃ k : Nat, i = .int .i64 (k : Int) ∧ k ≤ n ∧ wr.heap[w.heap.size]? = some (.cells (cntA l 0) 113 (0, 0)) ∧ wr.heap[w.heap.size + 1]? = some (.cells (onceA k) 113 (0, 0)) ∧ Below w.heap.size w wr) (fun _ i _ => n - (intOf i).toNat)
  case atStart => exact ⟨0, rfl, by omega, heap_alloc2_old w _ _, heap_alloc2_new w _ _, ((Below.refl _ _).alloc (Nat.le_refl _) _).alloc (by simp) _⟩
  case round =>
    obtain ⟨k, rfl, hk, hx0, hx1, hbel⟩ := hrel
    have HX0 := Lib.hid hx0
    have HX1 := Lib.hid hx1
    have HBEL := Lib.hid hbel
    have hsz : w.heap.size + 1 < wr.heap.size := lt_of_block hx1
    by_cases hlt : k < n
    · have hk5 : k < 5 := by have := HN.out; omega
      have hcell : wr.cell? ⟨w.heap.size + 1, k, none⟩ = some (.int .i64 0) := (cell_of_row wr _ k _ _ (0, 0) hx1).trans (onceA_get hk5)
      have hfree : wr.frozen? ⟨w.heap.size + 1, k, none⟩ = false := frozen_of_row wr _ k _ _ hx1
      have HSET := Lib.hid (onceA_set hk5)
      have hkz : (k : Int) < (n : Int) := by omega
      have hk5z : (k : Int) < 5 := by omega
      clear hx0 hx1 hbel
      go_wp2
      go_roundw
      case rel => exact ⟨k + 1, by go_num, by omega, by rw [heap_setCell_other _ _ _ _ (by simp)]; exact HX0.out, by rw [← HSET.out]; exact heap_setCell_same wr _ k _ _ _ HX1.out, bS (by simp) HBEL.out⟩
      case measure => simp [intOf] <;> omega
    · obtain rfl : k = n := by omega
      clear hx0 hx1 hbel
      obtain ⟨wo, rfl⟩ : ∃ wo : World, wo = wr := ⟨_, rfl⟩
      go_wp2
      go_loopw [9, 19] (fun _ i wr => ∃ m : Nat, i = .int .i64 (m : Int) ∧ m ≤ l.length ∧ (∀ i, i < m → inR k (l.getD i 0) = true) ∧ wr.heap[w.heap.size]? = some (.cells (cntA l m) 113 (0, 0)) ∧ wr.heap[w.heap.size + 1]? = some (.cells (onceA k) 113 (0, 0)) ∧ Below w.heap.size w wr) (fun _ i _ => l.length - (intOf i).toNat)
      case atStart => exact ⟨0, rfl, by omega, fun i hi => absurd hi (by omega), HX0.out, HX1.out, HBEL.out⟩
      case round =>
        obtain ⟨m, rfl, hm, hin, hy0, hy1, hbel⟩ := hrel
        have HY0 := Lib.hid hy0
        have HY1 := Lib.hid hy1
        have HIN := Lib.hid hin
        have HBR := Lib.hid hbel
        have hszr : w.heap.size + 1 < wr.heap.size := lt_of_block hy1
        obtain ⟨a', cap', he, _, hbd, hrd⟩ := HI.out
        simp only [Value.slice.injEq, true_and] at he
        obtain ⟨rfl, rfl⟩ := he
        by_cases hlt : m < l.length
        · obtain ⟨b, off, rfl, hbw, hcl⟩ := hrd (by omega)
          have hcp : wr.cell? ⟨b, off + m, none⟩ = some (.int .i64 (l.getD m 0)) := (hbel.cell (p := ⟨b, off + m, none⟩) hbw).trans (hcl m hlt)
          have hmz : (m : Int) < (l.length : Int) := by omega
          clear hy0 hrd hcl hbd
          cases hr : inR k (l.getD m 0) with
          | true =>
            have hp := pAt_int hr
            obtain ⟨hp1, hp2⟩ := hp
            have hj5 : pAt l m < 5 := by have := HN.out; omega
            have HSET := Lib.hid (cntA_set hlt hj5 hp1.symm)
            have hcc : wr.cell? ⟨w.heap.size, pAt l m, none⟩ = some (.int .i64 (cntK l m ((pAt l m : Nat) : Int) : Int)) := (cell_of_row wr _ _ _ _ (0, 0) HY0.out).trans (cntA_get l m hj5)
            have hfree : wr.frozen? ⟨w.heap.size, pAt l m, none⟩ = false := frozen_of_row wr _ _ _ _ HY0.out
            have hcb := cntK_le l m ((pAt l m : Nat) : Int)
            have HIN' : Hid (∀ i, i < m + 1 → inR k (l.getD i 0) = true) := Lib.hid (by
              intro i hi
              rcases (show i < m ∨ i = m by omega) with h | rfl
              · exact HIN.out i h
              · exact hr)
            rw [← hp1] at hcp
            generalize pAt l m = j at HSET hcc hfree hcb hp2 hj5 hcp
            generalize cntK l m (j : Int) = c at HSET hcc hcb
            have hjz : (j : Int) < (k : Int) := by omega
            have hj5z : (j : Int) < 5 := by omega
            have hcz : (c : Int) ≤ 2000000 := by omega
            clear hy1 hbel hin hp1 hr
            go_wp2_with fail
            refine (Tab.isVar_yes _ _ ⟨by omega, hjz⟩ _).mono ?_
            rintro e w2 ⟨rfl, rfl⟩
            go_wp2
            go_roundw
            case rel => exact ⟨m + 1, by go_num, by omega, HIN'.out, by rw [← HSET.out]; exact heap_setCell_same wr _ j _ _ _ HY0.out, by rw [heap_setCell_other _ _ _ _ (by simp)]; exact HY1.out, bS (by simp) HBR.out⟩
            case measure => simp [intOf] <;> omega
          | false =>
            have HNO : Hid (permB l k = false) := Lib.hid (by
              rw [Bool.eq_false_iff]
              intro hpp
              have := (permB_iff.1 hpp).2.1 m hlt
              rw [hr] at this
              cases this)
            have HV : Hid (¬ (0 ≤ l.getD m 0 ∧ l.getD m 0 < (k : Int))) := Lib.hid (fun h => by rw [inR_iff.2 h] at hr; cases hr)
            clear hy1 hbel hin hr
            generalize l.getD m 0 = x at hcp HV
            go_wp2_with fail
            refine (Tab.isVar_no _ _ HV.out _).mono ?_
            rintro e w2 ⟨rfl, rfl⟩
            go_wp2
            go_ret
            exact ⟨by rw [HNO.out]; rfl, HBR.out⟩
        · obtain rfl : m = l.length := by omega
          have HC := Lib.hid (perm_count l k HN.out HIN.out)
          obtain ⟨c0, c1, c2, c3, c4⟩ := cells5 HY0.out
          obtain ⟨d0, d1, d2, d3, d4⟩ := cells5 HY1.out
          clear hy0 hy1 hbel hin hrd hbd
          have heq : ∀ W : World, (Op.equalIn 10000 113 (.agg #[cntV l l.length 0, cntV l l.length 1, cntV l l.length 2, cntV l l.length 3, cntV l l.length 4]) (.agg #[oneB k 0, oneB k 1, oneB k 2, oneB k 3, oneB k 4])).run Try.prog W = .ok (permB l k) W := by
            intro W
            unfold cntV oneB
            rw [eq5]
            congr 1
            rw [Bool.eq_iff_iff, HC.out]
            simp only [Bool.and_eq_true, beq_iff_eq, cntK_all]
            constructor
            · rintro ⟨e0, e1, e2, e3, e4⟩ j hj
              rcases five hj with rfl | rfl | rfl | rfl | rfl <;> simp only [Int.cast_ofNat_Int] <;> split <;> simp_all <;> omega
            · intro hh
              have e0 := hh 0 (by omega); have e1 := hh 1 (by omega); have e2 := hh 2 (by omega); have e3 := hh 3 (by omega); have e4 := hh 4 (by omega)
              simp only [Int.cast_ofNat_Int] at e0 e1 e2 e3 e4
              rw [e0, e1, e2, e3, e4]
              refine ⟨?_, ?_, ?_, ?_, ?_⟩ <;> split <;> rfl
          go_wp2
          go_ret
          exact ⟨rfl, HBR.out⟩

end Go.Proofs.Ythdcjldmafhcjaa

namespace Go.Proofs.Ythdcjldmafhcjaa
open Go.RowKit Plain
set_option linter.unusedVariables false

/-- What PermuteTable answers. -/
def Plain.perT (n a : Int) (l : List Int) : Int × Int × Bool :=
  if isT n a = true ∧ permB l n.toNat = true then (n, (perW n.toNat a.toNat l : Int), true) else (0, 0, false)
theorem perT_yes {n a : Nat} {l : List Int} (ht : isT n a = true) (hp : permB l n = true) : perT n a l = ((n : Int), (perW n a l : Int), true) := by
  unfold perT; rw [if_pos ⟨ht, hp⟩]; rfl
theorem perT_no {n a : Int} {l : List Int} (h : ¬ (isT n a = true ∧ permB l n.toNat = true)) : perT n a l = (0, 0, false) := if_neg h

set_option maxRecDepth 100000 in
set_option maxHeartbeats 1000000 in
/-- The function value of PermuteTable. -/
theorem Clo.per (p q a n y : Nat) (v : Value) (l : List Int) (hn : n ≤ 5) (hy : y < 2 ^ 5) (hp : permB l n = true) (ha : (a : Int) ≤ 4294967295) (W : World)
    (hv : IntsIn W v l) (hpc : W.cell? ⟨p, 0, none⟩ = some v) (hq : W.cell? ⟨q, 0, none⟩ = some (.int .u64 (a : Int))) :
    Calls Try.prog 105 #[.int .i64 y, .pointer (some ⟨p, 0, none⟩), .pointer (some ⟨q, 0, none⟩)] W fun e w' => e = .returned (.int .i64 (perV a l n y : Int)) ∧ W = w' := by
  obtain ⟨hlen, hr, hpt, _, _⟩ := permB_facts hn hp
  have HR := Lib.hid hr
  have HP := Lib.hid hpt
  have HN := Lib.hid hn
  have HL := Lib.hid hlen
  have hy5 : (y : Int) ≤ 31 := by omega
  have hn5 : (n : Int) ≤ 5 := by omega
  obtain ⟨ad, cap, rfl, hl, _, hrd⟩ := hv
  rw [hlen] at hrd hpc
  have HRD := Lib.hid hrd
  clear hr hpt hn hlen hrd hy hp hl
  go_enter Try.func105, Try.ntmps105
  go_wp2
  go_loop [5, 6, 7, 10] (fun x _ _ i => ∃ k : Nat, i = .int .i64 (k : Int) ∧ k ≤ n ∧ x = .int .i64 (tabN (fun i => bitN y (pAt l i)) k : Int)) (fun _ _ _ i => n - (intOf i).toNat)
  case atStart => exact ⟨0, rfl, by omega, rfl⟩
  case round =>
    obtain ⟨k, rfl, hk, rfl⟩ := hrel
    by_cases hlt : k < n
    · obtain ⟨b, off, rfl, hbw, hcl⟩ := HRD.out (by omega)
      have hcp := hcl k hlt
      have hp := pAt_int (HR.out k hlt)
      rw [← hp.1] at hcp
      have hpk := hp.2
      have hx := tabN_lt (fun i => bitN y (pAt l i)) k
      have hx2 : 2 ^ k ≤ 2 ^ 5 := Nat.pow_le_pow_right (by decide) (by have := HN.out; omega)
      have hxz : (tabN (fun i => bitN y (pAt l i)) k : Int) ≤ 31 := by omega
      have HO := Lib.hid (mulbit_i64 (tabN (fun i => bitN y (pAt l i)) k) (bitN y (pAt l k)) k (by omega) bitN_any (by have := HN.out; omega))
      have HV := Lib.hid (tabN_mul (v := fun i => bitN y (pAt l i)) (x := k) bitN_any)
      have HA := Lib.hid (bit_i64 y (pAt l k) (by omega))
      have hpz : (pAt l k : Int) ≤ 4 := by omega
      have hkz : (k : Int) < (n : Int) := by omega
      clear hcl hp hpk hx hx2
      generalize pAt l k = j at hcp HO HA hpz HV
      generalize tabN (fun i => bitN y (pAt l i)) k = t at HO hxz HV ⊢
      go_wp2
      go_round
      case rel => exact ⟨k + 1, by go_num, by omega, by rw [HV.out, ← HO.out, ← HA.out]⟩
      case measure => simp [intOf] <;> omega
    · obtain rfl : k = n := by omega
      have hx := tabN_lt (fun i => bitN y (pAt l i)) k
      have hx2 : 2 ^ k ≤ 2 ^ 5 := Nat.pow_le_pow_right (by decide) HN.out
      have HX : Hid (tabN (fun i => bitN y (pAt l i)) k ≤ 63) := Lib.hid (by omega)
      clear hx hx2
      go_wp2_with fail
      refine (Tab.at a _ (by omega) HX.out _).mono ?_
      rintro e w1 ⟨rfl, rfl⟩
      go_wp2
      go_ret
      exact ⟨rfl, rfl⟩

theorem Tab.perI_no1 (n a : Int) (ad : Option Addr) (cl cap : Nat) (l : List Int) (h64 : -9223372036854775808 ≤ a ∧ a ≤ 9223372036854775807) (ht : isT n a = false) (w : World) (hv : IntsIn w (.slice ad cl cap) l) :
    Calls Try.prog 92 #[.agg #[.int .i64 n, .int .i64 a], .slice ad cl cap] w fun e w' => e = .returned (.tuple #[.agg #[.int .i64 0, .int .i64 0], .bool false]) ∧ Below w.heap.size w w' := by
  have H := Lib.hid ht
  have HB := Lib.hid h64
  clear ht h64
  go_enter Try.func92, Try.ntmps92
  go_wp2_with fail
  refine (Tab.impl _ _ HB.out _).mono ?_
  rintro e w1 ⟨rfl, hb1⟩
  obtain ⟨hc, hf⟩ := bcell hb1
  obtain ⟨hz0_w1, hz1_w1, hz2_w1⟩ : w.heap.size < w1.heap.size ∧ w.heap.size + 1 < w1.heap.size ∧ w.heap.size + 1 + 1 < w1.heap.size := by have := hb1.size; simp at this; omega
  rw [H.out]
  go_wp2
  exact bodyPost_ret (v := .tuple #[.agg #[.int .i64 0, .int .i64 0], .bool false]) (by simp [results, Try.results92, go_sem, hc]) rfl ⟨rfl, bS (by simp <;> omega) (bS (by simp <;> omega) (((((Below.refl _ _).alloc (Nat.le_refl _) _).alloc (by simp <;> omega) _).alloc (by simp <;> omega) _).trans (hb1.mono (by simp <;> omega))))⟩

set_option maxRecDepth 100000 in
set_option maxHeartbeats 1000000 in
theorem Tab.perI_no2 (n a : Nat) (ad : Option Addr) (cl cap : Nat) (l : List Int) (ht : isT n a = true) (hn : n ≤ 5) (ha : (a : Int) ≤ 4294967295) (hp : permB l n = false) (w : World) (hv : IntsIn w (.slice ad cl cap) l) :
    Calls Try.prog 92 #[.agg #[.int .i64 n, .int .i64 a], .slice ad cl cap] w fun e w' => e = .returned (.tuple #[.agg #[.int .i64 0, .int .i64 0], .bool false]) ∧ Below w.heap.size w w' := by
  have H := Lib.hid ht
  have HN := Lib.hid hn
  have HP := Lib.hid hp
  have hn5 : (n : Int) ≤ 5 := by omega
  have HVI : Hid (∀ w1 : World, Below (((w.alloc (.cells #[.int .i64 n, .int .i64 a] 25)).alloc (.cells #[.slice ad cl cap] 34)).alloc (.cells #[.int .i64 0, .int .i64 0] 25)).heap.size (((w.alloc (.cells #[.int .i64 n, .int .i64 a] 25)).alloc (.cells #[.slice ad cl cap] 34)).alloc (.cells #[.int .i64 0, .int .i64 0] 25)) w1 → IntsIn w1 (.slice ad cl cap) l) :=
    Lib.hid fun w1 hb => hv.below (((((Below.refl _ _).alloc (Nat.le_refl _) _).alloc (by simp) _).alloc (by simp <;> omega) _).trans (hb.mono (by simp <;> omega)))
  clear ht hn hp hv
  go_enter Try.func92, Try.ntmps92
  go_wp2_with fail
  refine (Tab.impl _ _ (by omega) _).mono ?_
  rintro e w1 ⟨rfl, hb1⟩
  obtain ⟨hc, hf⟩ := bcell hb1
  obtain ⟨hz0_w1, hz1_w1, hz2_w1⟩ : w.heap.size < w1.heap.size ∧ w.heap.size + 1 < w1.heap.size ∧ w.heap.size + 1 + 1 < w1.heap.size := by have := hb1.size; simp at this; omega
  rw [H.out]
  go_wp2_with fail
  refine (Tab.ord n HN.out (.slice ad cl cap) l _ (HVI.out _ hb1)).mono ?_
  rintro e w2 ⟨rfl, hb2⟩
  rw [HP.out]
  obtain ⟨hc2, hf2⟩ := bcell hb2
  have hs2 := hb2.size
  have HB2 := Lib.hid (((((Below.refl _ _).alloc (Nat.le_refl _) _).alloc (by simp <;> omega) _).alloc (by simp <;> omega) _).trans (hb1.mono (by simp <;> omega)) |>.trans (hb2.mono (by omega)))
  obtain ⟨hy0, hy1, hy2⟩ : w.heap.size < w2.heap.size ∧ w.heap.size + 1 < w2.heap.size ∧ w.heap.size + 1 + 1 < w2.heap.size := by omega
  go_wp2
  obtain ⟨k0, k1⟩ := keepT (Y := w2) (g := w.heap.size + 1 + 1) (u := .int .i64 0) (v := .int .i64 0) (keepB hb2 (keepB hb1 (keepN (by simp) rfl))) (keepB hb2 (keepB hb1 (keepN (by simp) rfl)))
  exact bodyPost_ret (v := .tuple #[.agg #[.int .i64 0, .int .i64 0], .bool false]) (by simp [results, Try.results92, go_sem, k0, k1]) rfl ⟨rfl, bS (by simp <;> omega) (bS (by simp <;> omega) HB2.out)⟩

set_option maxRecDepth 100000 in
set_option maxHeartbeats 1000000 in
theorem Tab.perI_yes (n a : Nat) (ad : Option Addr) (cl cap : Nat) (l : List Int) (ht : isT n a = true) (hn : n ≤ 5) (ha : (a : Int) ≤ 4294967295) (hp : permB l n = true) (w : World) (hv : IntsIn w (.slice ad cl cap) l) :
    Calls Try.prog 92 #[.agg #[.int .i64 n, .int .i64 a], .slice ad cl cap] w fun e w' => e = .returned (.tuple #[.agg #[.int .i64 n, .int .i64 (perW n a l : Int)], .bool true]) ∧ Below w.heap.size w w' := by
  have H := Lib.hid ht
  have HN := Lib.hid hn
  have HP := Lib.hid hp
  have hn5 : (n : Int) ≤ 5 := by omega
  have HVI : Hid (∀ w1 : World, Below (((w.alloc (.cells #[.int .i64 n, .int .i64 a] 25)).alloc (.cells #[.slice ad cl cap] 34)).alloc (.cells #[.int .i64 0, .int .i64 0] 25)).heap.size (((w.alloc (.cells #[.int .i64 n, .int .i64 a] 25)).alloc (.cells #[.slice ad cl cap] 34)).alloc (.cells #[.int .i64 0, .int .i64 0] 25)) w1 → IntsIn w1 (.slice ad cl cap) l) :=
    Lib.hid fun w1 hb => hv.below (((((Below.refl _ _).alloc (Nat.le_refl _) _).alloc (by simp) _).alloc (by simp <;> omega) _).trans (hb.mono (by simp <;> omega)))
  clear ht hn hp hv
  go_enter Try.func92, Try.ntmps92
  go_wp2_with fail
  refine (Tab.impl _ _ (by omega) _).mono ?_
  rintro e w1 ⟨rfl, hb1⟩
  obtain ⟨hc, hf⟩ := bcell hb1
  obtain ⟨hz0_w1, hz1_w1, hz2_w1⟩ : w.heap.size < w1.heap.size ∧ w.heap.size + 1 < w1.heap.size ∧ w.heap.size + 1 + 1 < w1.heap.size := by have := hb1.size; simp at this; omega
  rw [H.out]
  go_wp2_with fail
  refine (Tab.ord n HN.out (.slice ad cl cap) l _ (HVI.out _ hb1)).mono ?_
  rintro e w2 ⟨rfl, hb2⟩
  rw [HP.out]
  obtain ⟨hc2, hf2⟩ := bcell hb2
  have hs2 := hb2.size
  have HB2 := Lib.hid (((((Below.refl _ _).alloc (Nat.le_refl _) _).alloc (by simp <;> omega) _).alloc (by simp <;> omega) _).trans (hb1.mono (by simp <;> omega)) |>.trans (hb2.mono (by omega)))
  obtain ⟨hy0, hy1, hy2⟩ : w.heap.size < w2.heap.size ∧ w.heap.size + 1 < w2.heap.size ∧ w.heap.size + 1 + 1 < w2.heap.size := by omega
  have c1 : w2.cell? ⟨w.heap.size + 1, 0, none⟩ = some (.slice ad cl cap) := keepB hb2 (keepB hb1 (keepA (keepN (by simp) rfl)))
  have HV2 := Lib.hid ((HVI.out _ hb1).below hb2)
  go_wp2_with fail
  refine (Tab.from_any n HN.out (perV a l n) 105 #[.pointer (some ⟨w.heap.size + 1, 0, none⟩), .pointer (some ⟨w2.heap.size, 0, none⟩)] (enters_of Try.func105 (by kernel_rfl) rfl) _ ?gv).mono ?_
  case gv => exact .of_same fun W y hy hbb => Clo.per _ _ a n y (.slice ad cl cap) l HN.out (pow5 HN.out hy) HP.out ha W ((HV2.out.below ((Below.refl _ _).alloc (Nat.le_refl _) _)).below hbb) (cellOn hbb (keepA c1)) (cellOn hbb (keepN rfl rfl))
  rintro e w3 ⟨rfl, hb3⟩
  obtain ⟨hc3, hf3⟩ := bcell hb3
  have hs3 := hb3.size
  simp only [World.size_alloc] at hs3
  go_wp2
  obtain ⟨k0, k1⟩ := keepT (Y := w3) (g := w.heap.size + 1 + 1) (u := .int .i64 (n : Int)) (v := .int .i64 (tabN (perV a l n) (2 ^ n) : Int)) (keepB hb3 (keepA (keepB hb2 (keepB hb1 (keepN (by simp) rfl))))) (keepB hb3 (keepA (keepB hb2 (keepB hb1 (keepN (by simp) rfl)))))
  exact bodyPost_ret (v := .tuple #[.agg #[.int .i64 n, .int .i64 (tabN (perV a l n) (2 ^ n) : Int)], .bool true]) (by simp [results, Try.results92, go_sem, k0, k1]) rfl ⟨rfl, bS (by simp <;> omega) (bS (by simp <;> omega) ((HB2.out.alloc (by omega) _).trans (hb3.mono (by simp <;> omega))))⟩

/-- PermuteTable of the program. -/
theorem Tab.perI (n a : Int) (ad : Option Addr) (cl cap : Nat) (l : List Int) (h64 : -9223372036854775808 ≤ a ∧ a ≤ 9223372036854775807) (w : World) (hv : IntsIn w (.slice ad cl cap) l) :
    Calls Try.prog 92 #[.agg #[.int .i64 n, .int .i64 a], .slice ad cl cap] w fun e w' => e = .returned (.tuple #[.agg #[.int .i64 (perT n a l).1, .int .i64 (perT n a l).2.1], .bool (perT n a l).2.2]) ∧ Below w.heap.size w w' := by
  by_cases ht : isT n a = true
  · obtain ⟨m, y, rfl, rfl, hm, hy⟩ := isT_nat ht
    have hl : (y : Int) ≤ 4294967295 := by have := fullN_le m hm; omega
    cases hp : permB l m with
    | true =>
      rw [perT_yes ht hp]
      exact Tab.perI_yes m y ad cl cap l ht hm hl hp w hv
    | false =>
      rw [perT_no fun h => by have := h.2; rw [Int.toNat_natCast, hp] at this; cases this]
      exact Tab.perI_no2 m y ad cl cap l ht hm hl hp w hv
  · rw [perT_no fun h => ht h.1]
    exact Tab.perI_no1 n a ad cl cap l h64 (by simpa using ht) w hv

end Go.Proofs.Ythdcjldmafhcjaa

namespace Go.Proofs.Ythdcjldmafhcjaa
open Go.RowKit Plain
set_option linter.unusedVariables false

/-- What the model's test has found behind k numbers of the list. -/
def Plain.distB (l : List Int) (n k : Nat) : Prop := (∀ i, i < k → inR n (l.getD i 0) = true) ∧ ∀ i, i < k → ∀ j, j < i → l.getD j 0 ≠ l.getD i 0

set_option maxRecDepth 100000 in
set_option maxHeartbeats 1000000 in
theorem Tab.ordM (n : Nat) (hn : n ≤ 5) (ad : Option Addr) (cl cap : Nat) (l : List Int) (w : World) (h : IntsIn w (.slice ad cl cap) l) :
    Calls Try.prog 58 #[.slice ad cl cap, .int .i64 n] w fun e w' => e = .returned (.bool (permB l n)) ∧ Below w.heap.size w w' := by
  obtain ⟨a', cap', he, hl, hbd, hrd⟩ := h
  simp only [Value.slice.injEq] at he
  obtain ⟨rfl, rfl, rfl⟩ := he
  have HRD := Lib.hid hrd
  have HN := Lib.hid hn
  have hn5 : (n : Int) ≤ 5 := by omega
  clear hrd hbd hn
  go_enter Try.func58, Try.ntmps58
  go_wp2
  go_loopw [5, 6] (fun i _ wr => ∃ k m : Nat, i = .int .i64 (k : Int) ∧ k ≤ l.length ∧ distB l n k ∧ wr = w.drewN m) (fun i _ _ => l.length - (intOf i).toNat)
  case atStart => exact ⟨0, 0, rfl, by omega, ⟨fun i hi => absurd hi (by omega), fun i hi => absurd hi (by omega)⟩, rfl⟩
  case round =>
    obtain ⟨k, q, rfl, hk, hd, rfl⟩ := hrel
    have HD := Lib.hid hd
    clear hd
    by_cases hlt : k < l.length
    · obtain ⟨b, off, rfl, hbw, hcl⟩ := HRD.out (by omega)
      have HCL := Lib.hid hcl
      have hck := hcl k hlt
      have hkz : (k : Int) < (l.length : Int) := by omega
      clear hcl
      cases hr : inR n (l.getD k 0) with
      | false =>
        have HNO : Hid (permB l n = false) := Lib.hid (by
          rw [Bool.eq_false_iff]
          intro hpp
          have := (permB_iff.1 hpp).2.1 k hlt
          rw [hr] at this
          cases this)
        have HV : Hid (¬ (0 ≤ l.getD k 0 ∧ l.getD k 0 ≤ (n : Int) - 1)) := Lib.hid (fun h => by rw [inR_iff.2 ⟨h.1, by omega⟩] at hr; cases hr)
        clear hr
        generalize l.getD k 0 = x at hck HV
        go_wp2_with fail
        refine (Widths.in_no _ _ _ HV.out _).mono ?_
        rintro e w2 ⟨rfl, rfl⟩
        go_wp2
        go_ret
        exact ⟨by rw [HNO.out]; rfl, below_drewN (Below.refl _ _) _⟩
      | true =>
        have HR := Lib.hid hr
        have HV := Lib.hid (inR_iff.1 hr)
        have HVV : Hid (0 ≤ l.getD k 0 ∧ l.getD k 0 ≤ (n : Int) - 1) := Lib.hid (by have := HV.out; omega)
        clear hr
        generalize hx : l.getD k 0 = x at hck HVV
        have HX := Lib.hid hx
        clear hx
        go_wp2_with fail
        refine (Widths.in_yes _ _ _ HVV.out _).mono ?_
        rintro e w2 ⟨rfl, rfl⟩
        go_wp2
        obtain ⟨wo, hwo⟩ : ∃ wo : World, wo = w.drewN q := ⟨_, rfl⟩
        go_loopw [6] (fun j wr => ∃ m p : Nat, j = .int .i64 (m : Int) ∧ m ≤ k ∧ (∀ j, j < m → l.getD j 0 ≠ x) ∧ wr = w.drewN p) (fun j _ => k - (intOf j).toNat)
        case atStart => exact ⟨0, q, rfl, by omega, fun j hj => absurd hj (by omega), rfl⟩
        case round =>
          obtain ⟨m, p, rfl, hm, hne, rfl⟩ := hrel
          have HNE := Lib.hid hne
          clear hne hwo
          by_cases hlt2 : m < k
          · have hcm := HCL.out m (by omega)
            have hmz : (m : Int) < (k : Int) := by omega
            have hml : (m : Int) < (l.length : Int) := by omega
            by_cases heq : l.getD m 0 = x
            · have HNO : Hid (permB l n = false) := Lib.hid (by
                rw [Bool.eq_false_iff]
                intro hpp
                exact (permB_iff.1 hpp).2.2 k hlt m hlt2 (by rw [heq, HX.out]))
              rw [heq] at hcm
              clear heq
              go_wp2
              go_quiet (fail)
              go_wp2
              go_ret
              exact ⟨by rw [HNO.out]; rfl, below_drewN (below_drewN (Below.refl _ _) _) _⟩
            · have HNE' : Hid (∀ j, j < m + 1 → l.getD j 0 ≠ x) := Lib.hid (by
                intro j hj
                rcases (show j < m ∨ j = m by omega) with h | rfl
                · exact HNE.out j h
                · exact heq)
              have hneb : (l.getD m 0 == x) = false := by rw [beq_eq_false_iff_ne]; exact heq
              clear heq
              generalize l.getD m 0 = y at hcm hneb
              go_wp2
              go_quiet (fail)
              go_wp2
              go_roundw
              case rel => exact ⟨m + 1, _, by go_num, by omega, HNE'.out, rfl⟩
              case measure => simp [intOf] <;> omega
          · obtain rfl : m = k := by omega
            have HD' : Hid (distB l n (m + 1)) := Lib.hid ⟨by
              intro i hi
              rcases (show i < m ∨ i = m by omega) with h | rfl
              · exact HD.out.1 i h
              · exact HR.out, by
              intro i hi j hj
              rcases (show i < m ∨ i = m by omega) with h | rfl
              · exact HD.out.2 i h j hj
              · rw [HX.out]; exact HNE.out j hj⟩
            go_wp2
            go_roundw
            case rel => exact ⟨m + 1, p, by go_num, by omega, HD'.out, rfl⟩
            case measure => simp [intOf] <;> omega
    · obtain rfl : k = l.length := by omega
      have HB : Hid (permB l n = decide ((l.length : Int) = (n : Int))) := Lib.hid (by
        unfold permB
        congr 1
        rw [eq_iff_iff]
        exact ⟨fun h => by omega, fun h => ⟨by omega, HD.out.1, HD.out.2⟩⟩)
      go_wp2
      go_ret
      refine ⟨ret_bool ?_, below_drewN (Below.refl _ _) _⟩
      rw [HB.out]; rfl

set_option maxRecDepth 100000 in
set_option maxHeartbeats 2000000 in
theorem Tab.perM_loop (n a : Nat) (hn : n ≤ 5) (ha : (a : Int) ≤ 4294967295) (ad : Option Addr) (cl cap : Nat) (l : List Int) (hp : permB l n = true) (w : World) (h : IntsIn w (.slice ad cl cap) l) :
    Calls Try.prog 59 #[.agg #[.int .i64 n, .int .i64 a], .slice ad cl cap] w fun e w' => e = .returned (.agg #[.int .i64 n, .int .i64 (perW n a l : Int)]) ∧ Below w.heap.size w w' := by
  obtain ⟨hlen, hr, hpt, _, _⟩ := permB_facts hn hp
  obtain ⟨hp1, hp2⟩ := two_pow_int n hn
  have HE := Lib.hid (per_eq n a l hn hp)
  have HR := Lib.hid hr
  have HPT := Lib.hid hpt
  have HN := Lib.hid hn
  have HPB := Lib.hid hp
  obtain ⟨a', cap', he, _, _, hrd⟩ := h
  simp only [Value.slice.injEq] at he
  obtain ⟨rfl, rfl, rfl⟩ := he
  have HRD := Lib.hid hrd
  have HL := Lib.hid hlen
  have hl5 : (l.length : Int) ≤ 5 := by omega
  have hln : (l.length : Int) = (n : Int) := by omega
  have HLN := Lib.hid hln
  have hn5 : (n : Int) ≤ 5 := by omega
  clear hrd hn hr hpt hp hlen hln
  go_enter Try.func59, Try.ntmps59
  go_wp2
  go_loopw [5, 6, 7, 8] (fun a' x _ _ wr => ∃ y : Nat, x = .int .i64 (y : Int) ∧ a' = .int .i64 (perS n a l y : Int) ∧ (y : Int) ≤ 2 ^ n ∧ Below w.heap.size w wr ∧ wr.heap[w.heap.size]? = some (.cells #[.int .i64 n, .int .i64 a] 25 (0, 0)) ∧ wr.heap[w.heap.size + 1]? = some (.cells #[.int .i64 0, .int .i64 0] 25 (0, 0))) (fun _ x _ _ _ => 32 - (intOf x).toNat)
  case atStart => exact ⟨0, rfl, rfl, by omega, ((Below.refl _ _).alloc (Nat.le_refl _) _).alloc (by simp) _, heap_alloc2_old w _ _, heap_alloc2_new w _ _⟩
  case round =>
    obtain ⟨y, rfl, rfl, hy, hbel, hx0, hx1⟩ := hrel
    obtain ⟨c0, c1, _, _⟩ := cells2 hx0
    obtain ⟨d0, d1, g0, g1⟩ := cells2 hx1
    have HBEL := Lib.hid hbel
    have HX0 := Lib.hid hx0
    have HX1 := Lib.hid hx1
    have hsz : w.heap.size + 1 < wr.heap.size := lt_of_block hx1
    clear hbel hx0 hx1
    by_cases hlt : (y : Int) < 2 ^ n
    · have hyn : y < 2 ^ n := by rw [up2] at hlt; omega
      have HYN := Lib.hid hyn
      clear hyn
      go_wp2
      obtain ⟨wo, rfl⟩ : ∃ wo : World, wo = wr := ⟨_, rfl⟩
      go_loopw [7, 8] (fun z i wr => ∃ k p : Nat, i = .int .i64 (k : Int) ∧ k ≤ n ∧ z = .int .i64 (scN (pAt l) (bitN y) k : Int) ∧ wr = wo.drewN p) (fun _ i _ => n - (intOf i).toNat)
      case atStart => exact ⟨0, 0, rfl, by omega, rfl, rfl⟩
      case round =>
        obtain ⟨k, p, rfl, hk, rfl, rfl⟩ := hrel
        by_cases hlt2 : k < n
        · obtain ⟨b, off, rfl, hbw, hcl⟩ := HRD.out (by have := HLN.out; omega)
          have hcp : wo.cell? ⟨b, off + k, none⟩ = some (.int .i64 (l.getD k 0)) := (HBEL.out.cell (p := ⟨b, off + k, none⟩) hbw).trans (hcl k (by have := HLN.out; omega))
          have hp := pAt_int (HR.out k hlt2)
          rw [← hp.1] at hcp
          have hpk := hp.2
          have hsl := scN_lt (pAt l) (bitN y) k n (fun _ _ => bitN_any) (fun x hx => HPT.out x (by omega))
          have hs2 : 2 ^ n ≤ 2 ^ 5 := Nat.pow_le_pow_right (by decide) HN.out
          have hsz31 : (scN (pAt l) (bitN y) k : Int) ≤ 31 := by omega
          have HO := Lib.hid (mulbit_i64 (scN (pAt l) (bitN y) k) (bitN y k) (pAt l k) (by omega) bitN_any (by omega))
          have HV : Hid (scN (pAt l) (bitN y) (k + 1) = scN (pAt l) (bitN y) k ||| bitN y k * 2 ^ pAt l k) := Lib.hid rfl
          have HA := Lib.hid (bit_i64 y k (by omega))
          have hpz : (pAt l k : Int) ≤ 4 := by omega
          have hkz : (k : Int) < (n : Int) := by omega
          have hkl : (k : Int) < (l.length : Int) := by have := HLN.out; omega
          clear hcl hp hpk hsl hs2
          generalize pAt l k = j at hcp HO hpz HV
          generalize scN (pAt l) (bitN y) k = t at HO hsz31 HV ⊢
          go_wp2
          go_quiet (fail)
          go_wp2
          go_roundw
          case rel => exact ⟨k + 1, _, by go_num, by omega, by rw [HV.out, ← HO.out, ← HA.out], rfl⟩
          case measure => simp [intOf] <;> omega
        · obtain rfl : k = n := by omega
          have hsl : scN (pAt l) (bitN y) k < 2 ^ k := scN_lt (pAt l) (bitN y) k k (fun _ _ => bitN_any) (fun x hx => HPT.out x (by omega))
          have hq := two_pow_le k HN.out
          have hpw : 2 ^ 2 ^ k ≤ 2 ^ 32 := Nat.pow_le_pow_right (by decide) (by omega)
          have hs0 := perS_lt k a l y HN.out HPB.out
          have hvy : (perS k a l y : Int) ≤ 4294967295 := by omega
          have HO := Lib.hid (mulbit_i64 (perS k a l y) (bitN a y) (scN (pAt l) (bitN y) k) hvy bitN_any (by omega))
          have HV : Hid (perS k a l (y + 1) = perS k a l y ||| bitN a y * 2 ^ scN (pAt l) (bitN y) k) := Lib.hid rfl
          have HA := Lib.hid (bit_i64 a y (by omega))
          have hsz31 : (scN (pAt l) (bitN y) k : Int) ≤ 31 := by omega
          clear hsl hq hpw hs0
          generalize scN (pAt l) (bitN y) k = t at HO hsz31 HV ⊢
          go_wp2
          go_roundw
          case rel => exact ⟨y + 1, by go_num, by rw [HV.out, ← HO.out, ← HA.out], by omega, below_drewN HBEL.out _, by simpa using HX0.out, by simpa using HX1.out⟩
          case measure => simp [intOf] <;> omega
    · have he : y = 2 ^ n := by rw [up2] at hy hlt; omega
      have HF : Hid (perS n a l y = perW n a l) := Lib.hid (by rw [he]; exact HE.out)
      clear he
      go_wp2
      obtain ⟨k0, k1⟩ := keepT (Y := wr) (g := w.heap.size + 1) (u := .int .i64 (n : Int)) (v := .int .i64 (perS n a l y : Int)) d0 d1
      rw [← HF.out]
      exact bodyPost_ret (v := .agg #[.int .i64 n, .int .i64 (perS n a l y : Int)]) (by simp [results, Try.results59, go_sem, k0, k1]) rfl ⟨rfl, bS (by simp) (bS (by simp) HBEL.out)⟩

theorem Tab.perM_no1 (n a : Int) (ad : Option Addr) (cl cap : Nat) (l : List Int) (ht : isT n a = false) (w : World) (hv : IntsIn w (.slice ad cl cap) l) :
    Calls Try.prog 20 #[.agg #[.int .i64 n, .int .i64 a], .slice ad cl cap] w fun e w' => e = .returned (.tuple #[.agg #[.int .i64 0, .int .i64 0], .bool false]) ∧ Below w.heap.size w w' := by
  have H := Lib.hid ht
  clear ht
  go_enter Try.func20, Try.ntmps20
  go_wp2_with fail
  refine (Tab.model _ _ _).mono ?_
  rintro e w1 ⟨rfl, hb1⟩
  obtain ⟨hc, hf⟩ := bcell hb1
  obtain ⟨hz0_w1, hz1_w1⟩ : w.heap.size < w1.heap.size ∧ w.heap.size + 1 < w1.heap.size := by have := hb1.size; simp at this; omega
  rw [H.out]
  go_wp2
  exact bodyPost_ret (v := .tuple #[.agg #[.int .i64 0, .int .i64 0], .bool false]) (by simp [results, Try.results20, go_sem, hc]) rfl ⟨rfl, bS (by simp <;> omega) (bS (by simp <;> omega) ((((Below.refl _ _).alloc (Nat.le_refl _) _).alloc (by simp <;> omega) _).trans (hb1.mono (by simp <;> omega))))⟩

set_option maxRecDepth 100000 in
set_option maxHeartbeats 1000000 in
theorem Tab.perM_no2 (n a : Nat) (ad : Option Addr) (cl cap : Nat) (l : List Int) (ht : isT n a = true) (hn : n ≤ 5) (ha : (a : Int) ≤ 4294967295) (hp : permB l n = false) (w : World) (hv : IntsIn w (.slice ad cl cap) l) :
    Calls Try.prog 20 #[.agg #[.int .i64 n, .int .i64 a], .slice ad cl cap] w fun e w' => e = .returned (.tuple #[.agg #[.int .i64 0, .int .i64 0], .bool false]) ∧ Below w.heap.size w w' := by
  have H := Lib.hid ht
  have HN := Lib.hid hn
  have HP := Lib.hid hp
  have hn5 : (n : Int) ≤ 5 := by omega
  have HVI : Hid (∀ w1 : World, Below ((w.alloc (.cells #[.int .i64 n, .int .i64 a] 25)).alloc (.cells #[.int .i64 0, .int .i64 0] 25)).heap.size ((w.alloc (.cells #[.int .i64 n, .int .i64 a] 25)).alloc (.cells #[.int .i64 0, .int .i64 0] 25)) w1 → IntsIn w1 (.slice ad cl cap) l) :=
    Lib.hid fun w1 hb => hv.below ((((Below.refl _ _).alloc (Nat.le_refl _) _).alloc (by simp) _).trans (hb.mono (by simp <;> omega)))
  clear ht hn hp hv
  go_enter Try.func20, Try.ntmps20
  go_wp2_with fail
  refine (Tab.model _ _ _).mono ?_
  rintro e w1 ⟨rfl, hb1⟩
  obtain ⟨hc, hf⟩ := bcell hb1
  obtain ⟨hz0_w1, hz1_w1⟩ : w.heap.size < w1.heap.size ∧ w.heap.size + 1 < w1.heap.size := by have := hb1.size; simp at this; omega
  rw [H.out]
  go_wp2_with fail
  refine (Tab.ordM n HN.out ad cl cap l _ (HVI.out _ hb1)).mono ?_
  rintro e w2 ⟨rfl, hb2⟩
  rw [HP.out]
  obtain ⟨hc2, hf2⟩ := bcell hb2
  have hs2 := hb2.size
  have HB2 := Lib.hid ((((Below.refl _ _).alloc (Nat.le_refl _) _).alloc (by simp <;> omega) _).trans (hb1.mono (by simp <;> omega)) |>.trans (hb2.mono (by omega)))
  obtain ⟨hy0, hy1⟩ : w.heap.size < w2.heap.size ∧ w.heap.size + 1 < w2.heap.size := by omega
  go_wp2
  obtain ⟨k0, k1⟩ := keepT (Y := w2) (g := w.heap.size + 1) (u := .int .i64 0) (v := .int .i64 0) (keepB hb2 (keepB hb1 (keepN (by simp) rfl))) (keepB hb2 (keepB hb1 (keepN (by simp) rfl)))
  exact bodyPost_ret (v := .tuple #[.agg #[.int .i64 0, .int .i64 0], .bool false]) (by simp [results, Try.results20, go_sem, k0, k1]) rfl ⟨rfl, bS (by simp <;> omega) (bS (by simp <;> omega) HB2.out)⟩

set_option maxRecDepth 100000 in
set_option maxHeartbeats 1000000 in
theorem Tab.perM_yes (n a : Nat) (ad : Option Addr) (cl cap : Nat) (l : List Int) (ht : isT n a = true) (hn : n ≤ 5) (ha : (a : Int) ≤ 4294967295) (hp : permB l n = true) (w : World) (hv : IntsIn w (.slice ad cl cap) l) :
    Calls Try.prog 20 #[.agg #[.int .i64 n, .int .i64 a], .slice ad cl cap] w fun e w' => e = .returned (.tuple #[.agg #[.int .i64 n, .int .i64 (perW n a l : Int)], .bool true]) ∧ Below w.heap.size w w' := by
  have H := Lib.hid ht
  have HN := Lib.hid hn
  have HP := Lib.hid hp
  have hn5 : (n : Int) ≤ 5 := by omega
  have HVI : Hid (∀ w1 : World, Below ((w.alloc (.cells #[.int .i64 n, .int .i64 a] 25)).alloc (.cells #[.int .i64 0, .int .i64 0] 25)).heap.size ((w.alloc (.cells #[.int .i64 n, .int .i64 a] 25)).alloc (.cells #[.int .i64 0, .int .i64 0] 25)) w1 → IntsIn w1 (.slice ad cl cap) l) :=
    Lib.hid fun w1 hb => hv.below ((((Below.refl _ _).alloc (Nat.le_refl _) _).alloc (by simp) _).trans (hb.mono (by simp <;> omega)))
  clear ht hn hp hv
  go_enter Try.func20, Try.ntmps20
  go_wp2_with fail
  refine (Tab.model _ _ _).mono ?_
  rintro e w1 ⟨rfl, hb1⟩
  obtain ⟨hc, hf⟩ := bcell hb1
  obtain ⟨hz0_w1, hz1_w1⟩ : w.heap.size < w1.heap.size ∧ w.heap.size + 1 < w1.heap.size := by have := hb1.size; simp at this; omega
  rw [H.out]
  go_wp2_with fail
  refine (Tab.ordM n HN.out ad cl cap l _ (HVI.out _ hb1)).mono ?_
  rintro e w2 ⟨rfl, hb2⟩
  rw [HP.out]
  obtain ⟨hc2, hf2⟩ := bcell hb2
  have hs2 := hb2.size
  have HB2 := Lib.hid ((((Below.refl _ _).alloc (Nat.le_refl _) _).alloc (by simp <;> omega) _).trans (hb1.mono (by simp <;> omega)) |>.trans (hb2.mono (by omega)))
  obtain ⟨hy0, hy1⟩ : w.heap.size < w2.heap.size ∧ w.heap.size + 1 < w2.heap.size := by omega
  go_wp2_with fail
  refine (Tab.perM_loop n a HN.out ha ad cl cap l HP.out _ ((HVI.out _ hb1).below hb2)).mono ?_
  rintro e w3 ⟨rfl, hb3⟩
  obtain ⟨hc3, hf3⟩ := bcell hb3
  have hs3 := hb3.size
  go_wp2
  obtain ⟨k0, k1⟩ := keepT (Y := w3) (g := w.heap.size + 1) (u := .int .i64 (n : Int)) (v := .int .i64 (perW n a l : Int)) (keepB hb3 (keepB hb2 (keepB hb1 (keepN (by simp) rfl)))) (keepB hb3 (keepB hb2 (keepB hb1 (keepN (by simp) rfl))))
  exact bodyPost_ret (v := .tuple #[.agg #[.int .i64 n, .int .i64 (perW n a l : Int)], .bool true]) (by simp [results, Try.results20, go_sem, k0, k1]) rfl ⟨rfl, bS (by simp <;> omega) (bS (by simp <;> omega) (HB2.out.trans (hb3.mono (by omega))))⟩

/-- PermuteTable of the model. -/
theorem Tab.perM (n a : Int) (ad : Option Addr) (cl cap : Nat) (l : List Int) (w : World) (hv : IntsIn w (.slice ad cl cap) l) :
    Calls Try.prog 20 #[.agg #[.int .i64 n, .int .i64 a], .slice ad cl cap] w fun e w' => e = .returned (.tuple #[.agg #[.int .i64 (perT n a l).1, .int .i64 (perT n a l).2.1], .bool (perT n a l).2.2]) ∧ Below w.heap.size w w' := by
  by_cases ht : isT n a = true
  · obtain ⟨m, y, rfl, rfl, hm, hy⟩ := isT_nat ht
    have hl : (y : Int) ≤ 4294967295 := by have := fullN_le m hm; omega
    cases hp : permB l m with
    | true =>
      rw [perT_yes ht hp]
      exact Tab.perM_yes m y ad cl cap l ht hm hl hp w hv
    | false =>
      rw [perT_no fun h => by have := h.2; rw [Int.toNat_natCast, hp] at this; cases this]
      exact Tab.perM_no2 m y ad cl cap l ht hm hl hp w hv
  · rw [perT_no fun h => ht h.1]
    exact Tab.perM_no1 n a ad cl cap l (by simpa using ht) w hv

end Go.Proofs.Ythdcjldmafhcjaa
