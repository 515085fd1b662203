/-
  The law of monotone tables: its small functions.
-/
import Derived.Test.YtlmhdocfdpbhmaaMonX
import Derived.Test.YtlmhdocfdpbhmaaMonE
import Derived.Test.YtlmhdocfdpbhmaaMonV
import Derived.Test.YtlmhdocfdpbhmaaMonN
import Derived.BigQuiet
import Derived.Deep.QuietTactic
namespace Go.Proofs.Ytlmhdocfdpbhmaa
open Go.RowKit Plain
set_option linter.unusedVariables false
set_option linter.unusedSimpArgs false
attribute [local go_sem ↓] Go.wp_at_zero Go.wp_at_succ

/-- Two lists that read alike are equal. -/
theorem Ints.sameM (va vb : Value) (l : List Int) (w : World) (ha : IntsIn w va l) (hb : IntsIn w vb l) :
    Calls Try.prog 41 #[va, vb] w fun e w' => e = .returned (.bool true) ∧ Below w.heap.size w w' := by
  obtain ⟨a, ca, rfl, hl, _, h1⟩ := ha
  obtain ⟨b, cb, rfl, _, _, h2⟩ := hb
  have H1 := Lib.hid h1
  have H2 := Lib.hid h2
  clear h1 h2
  go_enter Try.func41, Try.ntmps41
  go_wp2
  go_loopw [5] (fun i wr => ∃ k m : Nat, i = .int .i64 (k : Int) ∧ k ≤ l.length ∧ wr = w.drewN m) (fun i _ => l.length - (intOf i).toNat)
  case atStart => exact ⟨0, 0, rfl, by omega, rfl⟩
  case round =>
    obtain ⟨k, m, rfl, hk, rfl⟩ := hrel
    by_cases hlt : k < l.length
    · obtain ⟨ba, oa, rfl, _, ka⟩ := H1.out (by omega)
      obtain ⟨bb, ob, rfl, _, kb⟩ := H2.out (by omega)
      have ka' := ka k hlt
      have kb' := kb k hlt
      clear ka kb
      have hlz : (k : Int) < (l.length : Int) := by omega
      go_wp2
      go_quiet (fail)
      go_wp2
      go_roundw
      case rel => exact ⟨k + 1, _, by go_num, by omega, rfl⟩
      case measure => simp [intOf] <;> omega
    · go_wp2
      go_ret
      exact ⟨rfl, below_drewN (Below.refl _ _) m⟩

theorem getD_of_mem {l : List Int} {x : Int} (h : x ∈ l) : ∃ j, j < l.length ∧ l.getD j 0 = x := by
  obtain ⟨j, hj, e⟩ := List.getElem_of_mem h
  exact ⟨j, hj, by rw [List.getD_eq_getElem?_getD, List.getElem?_eq_getElem hj]; exact e⟩
/-- A number that is in a list is found. -/
theorem Has.yes (v : Value) (l : List Int) (x : Int) (hx : x ∈ l) (w : World) (ha : IntsIn w v l) :
    Calls Try.prog 50 #[v, .int .i64 x] w fun e w' => e = .returned (.bool true) ∧ w = w' := by
  obtain ⟨a, ca, rfl, hl, _, h1⟩ := ha
  obtain ⟨j, hj, hjx⟩ := getD_of_mem hx
  have H1 := Lib.hid h1
  have HJX := Lib.hid hjx
  clear h1 hx hjx
  go_enter Try.func50, Try.ntmps50
  go_wp2
  go_loopw [5] (fun i wr => ∃ k : Nat, i = .int .i64 (k : Int) ∧ k ≤ j ∧ w = wr) (fun i _ => l.length - (intOf i).toNat)
  case atStart => exact ⟨0, rfl, by omega, rfl⟩
  case round =>
    obtain ⟨k, rfl, hk, rfl⟩ := hrel
    obtain ⟨b, off, rfl, _, ka⟩ := H1.out (by omega)
    have ka' := ka k (by omega)
    have hlz : (k : Int) < (l.length : Int) := by omega
    by_cases hv : l.getD k 0 = x
    · rw [hv] at ka'
      clear ka hv
      go_wp2
      go_ret
      exact ⟨rfl, rfl⟩
    · have hkj : k + 1 ≤ j := by
        by_cases e : k = j
        · subst e; exact absurd HJX.out hv
        · omega
      have hm : l.length - (k + 1) < l.length - k := by omega
      generalize l.getD k 0 = y at *
      clear ka
      go_wp2
      exact ⟨⟨k + 1, by go_num, hkj, trivial⟩, hm⟩
end Go.Proofs.Ytlmhdocfdpbhmaa
