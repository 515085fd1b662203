/-
  The law of classes' own functions: big, sameInts, sameLists.
-/
import Derived.Test.YthdcjldmafhcjaaDrawW
import Derived.Test.YthdcjldmafhcjaaClsF
namespace Go.Proofs.Ythdcjldmafhcjaa
open Go.RowKit Plain
set_option linter.unusedVariables false

/-- Two lists that read alike are equal. -/
theorem Ints.sameL (va vb : Value) (l : List Int) (w : World) (ha : IntsIn w va l) (hb : IntsIn w vb l) :
    Calls Try.prog 72 #[va, vb] w fun e w' => e = .returned (.bool true) ∧ ∃ m, w' = w.drewN m := by
  obtain ⟨a, ca, rfl, hl, _, h1⟩ := ha
  obtain ⟨b, cb, rfl, _, _, h2⟩ := hb
  have H1 := Lib.hid h1
  have H2 := Lib.hid h2
  clear h1 h2
  go_enter Try.func72, Try.ntmps72
  go_wp2
  go_loopw [5] (fun i wr => ∃ k m : Nat, i = .int .i64 (k : Int) ∧ k ≤ l.length ∧ wr = w.drewN m) (fun i _ => l.length - (intOf i).toNat)
  case atStart => exact ⟨0, 0, rfl, by omega, rfl⟩
  case round =>
    obtain ⟨k, m, rfl, hk, rfl⟩ := hrel
    by_cases hlt : k < l.length
    · obtain ⟨ba, oa, rfl, _, ka⟩ := H1.out (by omega)
      obtain ⟨bb, ob, rfl, _, kb⟩ := H2.out (by omega)
      have ka' := ka k hlt
      have kb' := kb k hlt
      clear ka kb
      have hlz : (k : Int) < (l.length : Int) := by omega
      go_wp2
      go_quiet (fail)
      go_wp2
      go_roundw
      case rel => exact ⟨k + 1, _, by go_num, by omega, rfl⟩
      case measure => simp [intOf] <;> omega
    · go_wp2
      go_ret
      exact ⟨rfl, _, rfl⟩


/-- Two lists of lists that read alike are equal. -/
theorem Lists.sameL (va vb : Value) (L : List (List Int)) (w : World) (ha : RowsRd w va L) (hb : RowsRd w vb L) :
    Calls Try.prog 33 #[va, vb] w fun e w' => e = .returned (.bool true) ∧ ∃ m, w' = w.drewN m := by
  obtain ⟨a, ca, rfl, hl, _⟩ := id ha
  obtain ⟨b, cb, rfl, _, _⟩ := id hb
  have H1 := Lib.hid ha
  have H2 := Lib.hid hb
  have hlz : (L.length : Int) ≤ 1000 := by omega
  clear ha hb
  go_enter Try.func33, Try.ntmps33
  go_wp2
  go_loopw [5] (fun i wr => ∃ k m : Nat, i = .int .i64 (k : Int) ∧ k ≤ L.length ∧ wr = w.drewN m) (fun i _ => L.length - (intOf i).toNat)
  case atStart => exact ⟨0, 0, rfl, by omega, rfl⟩
  case round =>
    obtain ⟨k, m, rfl, hk, rfl⟩ := hrel
    by_cases hlt : k < L.length
    · obtain ⟨ba, oa, aa, pa, rfl, ka, ia⟩ := H1.out.cell k hlt
      obtain ⟨bb, ob, ab, pb, rfl, kb, ib⟩ := H2.out.cell k hlt
      have hbw : Below w.heap.size w (w.drewN m) := below_drewN (Below.refl _ _) m
      have IA := Lib.hid (ia.below hbw)
      have IB := Lib.hid (ib.below hbw)
      replace ka := keepB hbw ka
      replace kb := keepB hbw kb
      have hlz : (k : Int) < (L.length : Int) := by omega
      clear ia ib hbw
      generalize L.getD k [] = l at ka kb IA IB
      obtain ⟨W1, hW1⟩ : ∃ W1, W1 = w.drewN m := ⟨_, rfl⟩
      rw [← hW1] at ka kb IA IB ⊢
      have HW := Lib.hid hW1
      clear hW1
      go_wp2
      go_quiet ((go_at_call 72; refine Calls.quiet_of (Ints.sameL _ _ l _ ?_ ?_); (exact IA.out.below (below_drewN (Below.refl _ _) _)); (exact IB.out.below (below_drewN (Below.refl _ _) _))))
      go_wp2
      go_roundw
      case rel => exact ⟨k + 1, _, by go_num, by omega, by rw [HW.out, World.drewN_drewN]⟩
      case measure => simp [intOf] <;> omega
    · go_wp2
      go_ret
      exact ⟨rfl, _, rfl⟩

theorem Big.no (a : Option Addr) (len cap : Nat) (h : (len : Int) ≤ 1048576) (w : World) :
    Calls Try.prog 11 #[.slice a len cap] w fun e w' => e = .returned (.bool false) ∧ w = w' :=
  (Draw.big a len cap (by omega) w).mono fun e w' ⟨h1, h2⟩ => ⟨by rw [h1, decide_eq_false (by omega)], h2⟩

theorem Big.yes (a : Option Addr) (len cap : Nat) (h : ¬ (len : Int) ≤ 1048576) (hl : (len : Int) ≤ 9223372036854775807) (w : World) :
    Calls Try.prog 11 #[.slice a len cap] w fun e w' => e = .returned (.bool true) ∧ w = w' :=
  (Draw.big a len cap hl w).mono fun e w' ⟨h1, h2⟩ => ⟨by rw [h1, decide_eq_true (by omega)], h2⟩


theorem Lists.sameB (va vb : Value) (L : List (List Int)) (w : World) (ha : RowsRd w va L) (hb : RowsRd w vb L) :
    Calls Try.prog 33 #[va, vb] w fun e w' => e = .returned (.bool true) ∧ Below w.heap.size w w' :=
  (Lists.sameL va vb L w ha hb).mono fun e w' ⟨h1, m, h2⟩ => ⟨h1, by rw [h2]; exact below_drewN (Below.refl _ _) m⟩

end Go.Proofs.Ythdcjldmafhcjaa
