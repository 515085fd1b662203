/-
  The laws' functions on lists of terms: compared, marked, held, copied, counted.
-/
import Derived.Test.YtkamopckpmiioaaTrmR
import Derived.Deep.RegionHeld3
import Derived.Deep.DeepCutAuto
import Derived.Deep.DrawnRows

namespace Go.Proofs.Ytkamopckpmiioaa
open Go.RowKit Plain
set_option linter.unusedVariables false

/-- Two lists of terms that read alike are equal. -/
theorem Trms.same (va vb : Value) (l : List Ti) (w : World) (ha : TmsIn w va l) (hb : TmsIn w vb l) :
    Calls Try.prog 31 #[va, vb] w fun e w' => e = .returned (.bool true) ∧ Below w.heap.size w w' := by
  obtain ⟨a, ca, rfl, hl, hca, hca2, _, h1⟩ := ha
  obtain ⟨b, cb, rfl, _, hcb, hcb2, _, h2⟩ := hb
  have H1 := Lib.hid h1
  have H2 := Lib.hid h2
  clear h1 h2
  go_enter Try.func31, Try.ntmps31
  go_wp2
  go_loopw [5] (fun i wr => ∃ k : Nat, i = .int .i64 (k : Int) ∧ k ≤ l.length ∧ Below w.heap.size w wr) (fun i _ => l.length - (intOf i).toNat)
  case atStart => exact ⟨0, rfl, by omega, Below.refl _ _⟩
  case round =>
    obtain ⟨k, rfl, hk, hB⟩ := hrel
    have HB := Lib.hid hB
    clear hB
    by_cases hlt : k < l.length
    · obtain ⟨ba, oa, rfl, la, ka⟩ := H1.out (by omega)
      obtain ⟨bb, ob, rfl, lb, kb⟩ := H2.out (by omega)
      obtain ⟨c1, c2⟩ := ka k hlt
      obtain ⟨d1, d2⟩ := kb k hlt
      replace c1 := (HB.out.cell (p := ⟨ba, oa + k * 2, none⟩) la).trans c1
      replace c2 := (HB.out.cell (p := ⟨ba, oa + k * 2 + 1, none⟩) la).trans c2
      replace d1 := (HB.out.cell (p := ⟨bb, ob + k * 2, none⟩) lb).trans d1
      replace d2 := (HB.out.cell (p := ⟨bb, ob + k * 2 + 1, none⟩) lb).trans d2
      clear ka kb la lb
      have hlz : (k : Int) < (l.length : Int) := by omega
      generalize l.getD k (0, 0) = t at c1 c2 d1 d2
      go_wp2_with fail
      go_region_held3 (fun w' => w'.cell? ⟨ba, oa + k * 2, none⟩ = some (.int .i64 t.1) ∧ w'.cell? ⟨ba, oa + k * 2 + 1, none⟩ = some (.int .i64 t.2) ∧ w'.cell? ⟨bb, ob + k * 2, none⟩ = some (.int .i64 t.1) ∧ w'.cell? ⟨bb, ob + k * 2 + 1, none⟩ = some (.int .i64 t.2)) ((first | (go_split_ands; (try dsimp only); (refine ⟨?_, ?_, ?_, ?_⟩ <;> (repeat (first | with_reducible assumption | ((with_reducible refine keepU ?_); (with_reducible assumption)) | (with_reducible refine keepD ?_) | (with_reducible refine keepB hb1 ?_)))); done) | go_keep))
        (first | (go_at_call 23; refine (Trm.same _ _ _).mono ?_; rintro e w1 ⟨rfl, hb1⟩))
      go_wp2
      go_roundw
      case rel => exact ⟨k + 1, by go_num, by omega, bB hb1 HB.out.size (bD HB.out)⟩
      case measure => simp [intOf] <;> omega
    · go_wp2
      go_ret
      exact ⟨rfl, HB.out⟩

/-- The marks k, k+1, .., two a term. -/
def Plain.marks2 (k n : Nat) : List Ti := (List.range n).map fun i => (((k + 2 * i : Nat) : Int), ((k + 2 * i + 1 : Nat) : Int))
theorem marks2_length (k n : Nat) : (marks2 k n).length = n := by simp [marks2]
theorem marks2_getD (k n j : Nat) (h : j < n) : (marks2 k n).getD j (0, 0) = (((k + 2 * j : Nat) : Int), ((k + 2 * j + 1 : Nat) : Int)) := by
  simp [marks2, List.getD_eq_getElem?_getD, h]
theorem marks2_bound (k n : Nat) (h : (k + 2 * n : Int) ≤ 4000000) : Small2 (marks2 k n) := by
  intro x hx
  simp only [marks2, List.mem_map, List.mem_range] at hx
  obtain ⟨i, hi, rfl⟩ := hx
  dsimp only
  omega
theorem marks2_set (k j : Nat) (l : List Ti) (h : j < l.length) : (marks2 k j ++ l.drop j).set j (((k + 2 * j : Nat) : Int), ((k + 2 * j + 1 : Nat) : Int)) = marks2 k (j + 1) ++ l.drop (j + 1) := by
  rw [List.set_append_right _ _ (by rw [marks2_length]; exact Nat.le_refl _), marks2_length, Nat.sub_self, List.drop_eq_getElem_cons h, List.set_cons_zero]
  simp [marks2, List.range_succ]
theorem marks2_len (k j : Nat) (l : List Ti) (h : j ≤ l.length) : (marks2 k j ++ l.drop j).length = l.length := by
  rw [List.length_append, marks2_length, List.length_drop]; omega

theorem Trms.held (v : Value) (k n : Nat) (w : World) (hkn : (k + 2 * n : Int) ≤ 4000000) (h : TmsIn w v (marks2 k n)) :
    Calls Try.prog 33 #[v, .int .i64 k] w fun e w' => e = .returned (.int .i64 ((k + 2 * n : Nat) : Int)) ∧ w = w' := by
  obtain ⟨a, ca, rfl, hl, hca, hca2, _, h1⟩ := h
  rw [marks2_length] at *
  have H1 := Lib.hid h1
  clear h1
  go_enter Try.func33, Try.ntmps33
  go_wp2
  go_loop [1, 5] (fun c i => ∃ j : Nat, i = .int .i64 (j : Int) ∧ j ≤ n ∧ c = .int .i64 ((k + 2 * j : Nat) : Int)) (fun _ i => n - (intOf i).toNat)
  case atStart => exact ⟨0, rfl, by omega, by simp⟩
  case round =>
    obtain ⟨j, rfl, hj, rfl⟩ := hrel
    by_cases hlt : j < n
    · obtain ⟨ba, oa, rfl, _, ka⟩ := H1.out (by omega)
      obtain ⟨c1, c2⟩ := ka j hlt
      rw [marks2_getD k n j hlt] at c1 c2
      dsimp only at c1 c2
      clear ka
      have hlz : (j : Int) < (n : Int) := by omega
      generalize hq : ((k + 2 * j : Nat) : Int) = q at c1 ⊢
      have hq2 : ((k + 2 * j + 1 : Nat) : Int) = q + 1 := by omega
      rw [hq2] at c2
      have HQ := Lib.hid hq
      have hq0 : 0 ≤ q := by omega
      have hq1 : q ≤ 4000000 := by omega
      clear hq hq2
      go_wp2
      go_round
      case rel => exact ⟨j + 1, by go_num, by omega, by rw [show k + 2 * (j + 1) = k + 2 * j + 1 + 1 by omega, Int.natCast_add, Int.natCast_add, HQ.out]; go_num⟩
      case measure => simp [intOf] <;> omega
    · obtain rfl : j = n := by omega
      go_wp2
      go_ret
      exact ⟨rfl, rfl⟩

/-- What markTermS leaves. -/
def Marked2 (B : Nat) (v : Value) (k n : Nat) (w : World) (e : Ending) (w' : World) : Prop :=
  e = .returned (.int .i64 ((k + 2 * n : Nat) : Int)) ∧ TmRow w' B v (marks2 k n) ∧ w.grownBy w' v.ownBlock

theorem grown_more {w w1 w2 : World} {r : Option Nat} (h1 : w.grownBy w1 r) (h2 : w1.grownBy w2 r) : w.grownBy w2 r :=
  ⟨h2.os.trans h1.os, h2.tape.trans h1.tape, h2.output.trans h1.output, Nat.le_trans h1.size h2.size, fun i hi hne => (h2.block i (Nat.lt_of_lt_of_le hi h1.size) hne).trans (h1.block i hi hne)⟩

set_option maxHeartbeats 1000000 in
theorem Trms.mark (B : Nat) (v : Value) (l : List Ti) (k : Nat) (w : World) (hkn : (k + 2 * l.length : Int) ≤ 2000000) (h : TmRow w B v l) :
    Calls Try.prog 32 #[v, .int .i64 k] w (Marked2 B v k l.length w) := by
  rcases h.shape with ⟨rfl, rfl⟩ | ⟨g, cap, rfl, hB, hg, hcap, hcap2⟩
  · have H := Lib.hid h
    clear h
    go_enter Try.func32, Try.ntmps32
    go_wp2
    refine wp_loop_rounds 1 ?_
    rw [rounds_succ]
    go_wp2
    go_ret
    exact ⟨rfl, H.out, ⟨rfl, rfl, rfl, Nat.le_refl _, fun _ _ _ => rfl⟩⟩
  · have H := Lib.hid h
    clear h hcap2
    go_enter Try.func32, Try.ntmps32
    go_wp2
    go_loopw [1, 5] (fun c i wr => ∃ j : Nat, i = .int .i64 (j : Int) ∧ j ≤ l.length ∧ c = .int .i64 ((k + 2 * j : Nat) : Int) ∧ TmRow wr B (.slice (some ⟨g, 0, none⟩) l.length cap) (marks2 k j ++ l.drop j) ∧ w.grownBy wr (some g)) (fun _ i _ => l.length - (intOf i).toNat)
    case atStart => exact ⟨0, rfl, by omega, by simp, by simpa [marks2] using H.out, ⟨rfl, rfl, rfl, Nat.le_refl _, fun _ _ _ => rfl⟩⟩
    case round =>
      obtain ⟨j, rfl, hj, rfl, hrow, hgr⟩ := hrel
      have HG := Lib.hid hgr
      clear hgr
      by_cases hlt : j < l.length
      · have hlen := marks2_len k j l (by omega)
        have hst := hrow.store1 hlen j ((k + 2 * j : Nat) : Int)
        have hst2 := hst.1.store2 (by rw [List.length_set]; exact hlen) j ((k + 2 * j + 1 : Nat) : Int)
        rw [List.set_set, show ((marks2 k j ++ l.drop j).set j (((k + 2 * j : Nat) : Int), ((marks2 k j ++ l.drop j).getD j (0, 0)).2)).getD j (0, 0) = (((k + 2 * j : Nat) : Int), ((marks2 k j ++ l.drop j).getD j (0, 0)).2) by
          rw [List.getD_eq_getElem?_getD, List.getElem?_set_self (by omega)]; rfl, marks2_set k j l hlt] at hst2
        have HST := Lib.hid hst2
        have HST1 := Lib.hid hst.2
        obtain ⟨c1, c2⟩ := TmRow.cell (w := wr) (B := B) (g := g) (cap := cap) (l := marks2 k j ++ l.drop j) (by rw [hlen]; exact hrow) j (by rw [hlen]; exact hlt)
        have hfree := TmRow.free (w := wr) (B := B) (g := g) (cap := cap) (l := marks2 k j ++ l.drop j) (by rw [hlen]; exact hrow)
        have f1 := hfree (j * 2)
        have f2 := hfree (j * 2 + 1)
        generalize ((marks2 k j ++ l.drop j).getD j (0, 0)).1 = old1 at c1
        generalize ((marks2 k j ++ l.drop j).getD j (0, 0)).2 = old2 at c2
        clear hst hst2 hrow hlen hfree
        have hlz : (j : Int) < (l.length : Int) := by omega
        generalize hq : ((k + 2 * j : Nat) : Int) = q at HST HST1 ⊢
        have hq2 : ((k + 2 * j + 1 : Nat) : Int) = q + 1 := by omega
        rw [hq2] at HST
        have HQ := Lib.hid hq
        have hq0 : 0 ≤ q := by omega
        have hq1 : q ≤ 4000000 := by omega
        clear hq hq2
        go_wp2
        go_roundw
        case rel => exact ⟨j + 1, by go_num, by omega, by rw [show k + 2 * (j + 1) = k + 2 * j + 1 + 1 by omega, Int.natCast_add, Int.natCast_add, HQ.out]; go_num, HST.out.1, grown_more (grown_more HG.out HST1.out) HST.out.2⟩
        case measure => simp [intOf] <;> omega
      · obtain rfl : j = l.length := by omega
        have HR := Lib.hid hrow
        clear hrow
        go_wp2
        go_ret
        exact ⟨rfl, by simpa using HR.out, HG.out⟩

theorem Trms.size (v : Value) (l : List Ti) (w : World) (k : Int) (hk : 0 ≤ k ∧ k ≤ 1048576) (ad : Option Addr) (cap : Nat) (hv : v = .slice ad l.length cap) (hl : (l.length : Int) ≤ 9223372036854775807) :
    Calls Try.prog 38 #[v, .int .i64 k] w fun e w' => e = .returned (.int .i64 (if k < (l.length : Int) then -1 else k - l.length)) ∧ w = w' := by
  subst hv
  by_cases h : k < (l.length : Int)
  · rw [if_pos h]
    go_enter Try.func38, Try.ntmps38
    go_wp2
    go_ret
    exact ⟨rfl, rfl⟩
  · rw [if_neg h]
    go_enter Try.func38, Try.ntmps38
    go_wp2
    go_ret
    exact ⟨rfl, rfl⟩

end Go.Proofs.Ytkamopckpmiioaa
