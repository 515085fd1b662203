/-
  The laws' functions on lists of ints: compared, marked, held, copied.
-/
import Derived.Test.YtecakbjcnabpnaaRow
import Derived.Laws.AppendOwn
namespace Go.Proofs.Ytecakbjcnabpnaa
open Go.RowKit Plain
set_option linter.unusedVariables false

/-- Two lists that read alike are equal. -/
theorem Ints.same (va vb : Value) (l : List Int) (w : World) (ha : IntsIn w va l) (hb : IntsIn w vb l) :
    Calls Try.prog 99 #[va, vb] w fun e w' => e = .returned (.bool true) ∧ ∃ m, w' = w.drewN m := by
  obtain ⟨a, ca, rfl, hl, _, h1⟩ := ha
  obtain ⟨b, cb, rfl, _, _, h2⟩ := hb
  have H1 := Lib.hid h1
  have H2 := Lib.hid h2
  clear h1 h2
  go_enter Try.func99, Try.ntmps99
  go_wp2
  go_loopw [5] (fun i wr => ∃ k m : Nat, i = .int .i64 (k : Int) ∧ k ≤ l.length ∧ wr = w.drewN m) (fun i _ => l.length - (intOf i).toNat)
  case atStart => exact ⟨0, 0, rfl, by omega, rfl⟩
  case round =>
    obtain ⟨k, m, rfl, hk, rfl⟩ := hrel
    by_cases hlt : k < l.length
    · obtain ⟨ba, oa, rfl, _, ka⟩ := H1.out (by omega)
      obtain ⟨bb, ob, rfl, _, kb⟩ := H2.out (by omega)
      have ka' := ka k hlt
      have kb' := kb k hlt
      clear ka kb
      have hlz : (k : Int) < (l.length : Int) := by omega
      go_wp2
      go_quiet (fail)
      go_wp2
      go_roundw
      case rel => exact ⟨k + 1, _, by go_num, by omega, rfl⟩
      case measure => simp [intOf] <;> omega
    · go_wp2
      go_ret
      exact ⟨rfl, _, rfl⟩

/-- The marks k, k+1, .. -/
def Plain.marks (k n : Nat) : List Int := (List.range n).map fun i => ((k + i : Nat) : Int)
theorem marks_length (k n : Nat) : (marks k n).length = n := by simp [marks]
theorem marks_getD (k n j : Nat) (h : j < n) : (marks k n).getD j 0 = ((k + j : Nat) : Int) := by
  simp [marks, List.getD_eq_getElem?_getD, h]
theorem marks_bound (k n : Nat) (h : (k + n : Int) ≤ 4000000) : ∀ x ∈ marks k n, -9223372036854775808 ≤ x ∧ x ≤ 9223372036854775807 := by
  intro x hx
  simp only [marks, List.mem_map, List.mem_range] at hx
  obtain ⟨i, hi, rfl⟩ := hx
  omega

theorem Ints.held (v : Value) (k n : Nat) (w : World) (hkn : (k + n : Int) ≤ 4000000) (h : IntsIn w v (marks k n)) :
    Calls Try.prog 101 #[v, .int .i64 k] w fun e w' => e = .returned (.int .i64 ((k + n : Nat) : Int)) ∧ w = w' := by
  obtain ⟨a, ca, rfl, hl, _, h1⟩ := h
  rw [marks_length] at *
  have H1 := Lib.hid h1
  clear h1
  go_enter Try.func101, Try.ntmps101
  go_wp2
  go_loop [1, 5] (fun c i => ∃ j : Nat, i = .int .i64 (j : Int) ∧ j ≤ n ∧ c = .int .i64 ((k + j : Nat) : Int)) (fun _ i => n - (intOf i).toNat)
  case atStart => exact ⟨0, rfl, by omega, by simp⟩
  case round =>
    obtain ⟨j, rfl, hj, rfl⟩ := hrel
    by_cases hlt : j < n
    · obtain ⟨ba, oa, rfl, _, ka⟩ := H1.out (by omega)
      have ka' := ka j hlt
      rw [marks_getD k n j hlt] at ka'
      clear ka
      have hlz : (j : Int) < (n : Int) := by omega
      generalize hq : ((k + j : Nat) : Int) = q at ka' ⊢
      have HQ := Lib.hid hq
      have hq0 : 0 ≤ q := by omega
      have hq1 : q ≤ 4000000 := by omega
      clear hq
      go_wp2
      go_round
      case rel => exact ⟨j + 1, by go_num, by omega, by rw [← HQ.out]; go_num⟩
      case measure => simp [intOf] <;> omega
    · obtain rfl : j = n := by omega
      go_wp2
      go_ret
      exact ⟨rfl, rfl⟩

theorem marks_set (k j : Nat) (l : List Int) (h : j < l.length) : (marks k j ++ l.drop j).set j ((k + j : Nat) : Int) = marks k (j + 1) ++ l.drop (j + 1) := by
  rw [List.set_append_right _ _ (by rw [marks_length]; exact Nat.le_refl _), marks_length, Nat.sub_self, List.drop_eq_getElem_cons h, List.set_cons_zero]
  simp [marks, List.range_succ]
theorem marks_len (k j : Nat) (l : List Int) (h : j ≤ l.length) : (marks k j ++ l.drop j).length = l.length := by
  rw [List.length_append, marks_length, List.length_drop]; omega

/-- What markIntS leaves. -/
def Marked (B : Nat) (v : Value) (k n : Nat) (w : World) (e : Ending) (w' : World) : Prop :=
  e = .returned (.int .i64 ((k + n : Nat) : Int)) ∧ IntRow w' B v (marks k n) ∧ w.grownBy w' v.ownBlock

theorem Ints.mark (B : Nat) (v : Value) (l : List Int) (k : Nat) (w : World) (hkn : (k + l.length : Int) ≤ 2000000) (h : IntRow w B v l) :
    Calls Try.prog 100 #[v, .int .i64 k] w (Marked B v k l.length w) := by
  rcases h.shape with ⟨rfl, rfl⟩ | ⟨g, cap, rfl, hB, hg⟩
  · have H := Lib.hid h
    clear h
    go_enter Try.func100, Try.ntmps100
    go_wp2
    refine wp_loop_rounds 1 ?_
    rw [rounds_succ]
    go_wp2
    go_ret
    exact ⟨rfl, H.out, ⟨rfl, rfl, rfl, Nat.le_refl _, fun _ _ _ => rfl⟩⟩
  · have H := Lib.hid h
    clear h
    go_enter Try.func100, Try.ntmps100
    go_wp2
    go_loopw [1, 5] (fun c i wr => ∃ j : Nat, i = .int .i64 (j : Int) ∧ j ≤ l.length ∧ c = .int .i64 ((k + j : Nat) : Int) ∧ IntRow wr B (.slice (some ⟨g, 0, none⟩) l.length cap) (marks k j ++ l.drop j) ∧ w.grownBy wr (some g)) (fun _ i _ => l.length - (intOf i).toNat)
    case atStart => exact ⟨0, rfl, by omega, by simp, by simpa [marks] using H.out, ⟨rfl, rfl, rfl, Nat.le_refl _, fun _ _ _ => rfl⟩⟩
    case round =>
      obtain ⟨j, rfl, hj, rfl, hrow, hgr⟩ := hrel
      have HG := Lib.hid hgr
      clear hgr
      by_cases hlt : j < l.length
      · have hst := hrow.store (marks_len k j l (by omega)) j ((k + j : Nat) : Int)
        rw [marks_set k j l hlt] at hst
        have HST := Lib.hid hst
        have hlen := marks_len k j l (by omega)
        have hcell := IntRow.cell (w := wr) (B := B) (g := g) (cap := cap) (l := marks k j ++ l.drop j) (by rw [hlen]; exact hrow) j (by rw [hlen]; exact hlt)
        have hfree := IntRow.free (w := wr) (B := B) (g := g) (cap := cap) (l := marks k j ++ l.drop j) (by rw [hlen]; exact hrow) j
        generalize (marks k j ++ l.drop j).getD j 0 = old at hcell
        clear hst hrow hlen
        have hlz : (j : Int) < (l.length : Int) := by omega
        generalize hq : ((k + j : Nat) : Int) = q at HST ⊢
        have HQ := Lib.hid hq
        have hq0 : 0 ≤ q := by omega
        have hq1 : q ≤ 4000000 := by omega
        clear hq
        go_wp2
        go_roundw
        case rel => exact ⟨j + 1, by go_num, by omega, by rw [← HQ.out]; go_num, HST.out.1, ⟨HST.out.2.os.trans HG.out.os, HST.out.2.tape.trans HG.out.tape, HST.out.2.output.trans HG.out.output, Nat.le_trans HG.out.size HST.out.2.size, fun i hi hne => (HST.out.2.block i (Nat.lt_of_lt_of_le hi HG.out.size) hne).trans (HG.out.block i hi hne)⟩⟩
        case measure => simp [intOf] <;> omega
      · obtain rfl : j = l.length := by omega
        have HR := Lib.hid hrow
        clear hrow
        go_wp2
        go_ret
        exact ⟨rfl, by simpa using HR.out, HG.out⟩
end Go.Proofs.Ytecakbjcnabpnaa
