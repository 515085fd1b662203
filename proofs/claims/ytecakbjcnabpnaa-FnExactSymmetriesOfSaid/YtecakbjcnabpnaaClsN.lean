/-
  leastWord of the program: the least of the words that are keys.
-/
import Derived.Test.YtecakbjcnabpnaaClsM
namespace Go.Proofs.Ytecakbjcnabpnaa
open Go.RowKit Plain Go.Maps
set_option linter.unusedVariables false

/-- Is k the least of 'full' and the words of l that are no longer to come? -/
def Low (n k : Nat) (l : List Nat) (left : Lit → Bool) : Prop := k ≤ fullN n ∧ (∀ x ∈ l, left (keyW x) = false → k ≤ x) ∧ (k = fullN n ∨ k ∈ l)
theorem low_start {D : DataW Unit} {l : List Nat} (h : Counts D l) (n : Nat) : Low n (fullN n) l (Maps.has D) := by
  refine ⟨Nat.le_refl _, fun x hx hf => ?_, .inl rfl⟩
  obtain ⟨ks, _, hk, _, hh⟩ := h.keys
  rw [(hh _).2 ⟨x, (hk x).2 hx, rfl⟩] at hf
  cases hf
theorem key_nat {D : DataW Unit} {l : List Nat} (h : Counts D l) {x c : Int} (hat : ∀ zd, D.atKey (.int .u64 x) zd = .lit (.int .i64 c)) : ∃ y : Nat, x = y ∧ y ∈ l := by
  obtain ⟨ks, _, hk, _, hh⟩ := h.keys
  obtain ⟨y, hy, e⟩ := (hh _).1 (has_true_of_atKey hat)
  simp only [keyW, Lit.int.injEq, true_and] at e
  exact ⟨y, e, (hk y).1 hy⟩
theorem low_step {n k y : Nat} {l : List Nat} {left : Lit → Bool} (h : Low n k l left) (hy : y ∈ l) : Low n (min k y) l (fun z => left z && !z.sameKey (keyW y)) := by
  obtain ⟨h1, h2, h3⟩ := h
  refine ⟨Nat.le_trans (Nat.min_le_left _ _) h1, fun x hx hf => ?_, ?_⟩
  · cases hl : left (keyW x) with
    | false => exact Nat.le_trans (Nat.min_le_left _ _) (h2 x hx hl)
    | true =>
      simp only [hl] at hf
      have hs : (keyW x).sameKey (keyW y) = true := by simpa using hf
      rw [keyW_inj (WideAt.sameKey_eq hs)]
      exact Nat.min_le_right _ _
  · rcases Nat.le_total k y with h | h
    · rw [Nat.min_eq_left h]; exact h3
    · rw [Nat.min_eq_right h]; exact .inr hy
theorem low_end {n k : Nat} {l : List Nat} {left : Lit → Bool} (h : Low n k l left) (hl : ∀ z, left z = false) : k ≤ fullN n ∧ (∀ x ∈ l, k ≤ x) ∧ (k = fullN n ∨ k ∈ l) :=
  ⟨h.1, fun x hx => h.2.1 x hx (hl _), h.2.2⟩

set_option maxRecDepth 100000 in
theorem Map.least (n : Nat) (hn : n ≤ 5) (b N : Nat) (l : List Nat) (hfl : ∀ x ∈ l, x ≤ fullN n) (w : World) (h : MapIs w b N l) :
    Calls Try.prog 91 #[.int .i64 n, .map (some b)] w fun e w' => (∃ k : Nat, e = .returned (.int .u64 (k : Int)) ∧ k ≤ fullN n ∧ (∀ x ∈ l, k ≤ x) ∧ (k = fullN n ∨ k ∈ l)) ∧ Below w.heap.size w w' := by
  obtain ⟨D, hown, hcnt⟩ := h
  have HC := Lib.hid hcnt
  have HF := Lib.hid hfl
  have HN := Lib.hid hn
  clear hcnt hfl hn
  go_enter Try.func91, Try.ntmps91
  go_wp2_with fail
  refine (Tab.full n HN.out _).mono ?_
  rintro e w1 ⟨rfl, rfl⟩
  go_wp2_with (first
    | (at_range; refine wpList_range_own _ rfl _ 85 rfl 62 3 lawW Try.underlying85 _ b N _ rfl hown ?_; intro w0 hrg0 hg0 hs0)
    | fail)
  go_frame
  go_loopw [5, 6] (fun m _ wr => ∃ (k : Nat) (left : Lit → Bool) (cnt : Nat), m = .int .u64 (k : Int) ∧ Hid (Low n k l left) ∧ wr.ranges Try.prog 62 (plainElem Try.prog 3) b w.heap.size N D left cnt ∧ Below w.heap.size w wr)
    (fun _ _ wr => wr.rangeLeft b w.heap.size)
  case atStart => exact ⟨_, _, _, rfl, Lib.hid (low_start HC.out n), hrg0, (Below.refl _ _).grown hg0 (Nat.le_refl _) (fun _ h => by cases h)⟩
  case round =>
    obtain ⟨k, left, cnt, rfl, hlow, hrg, hbel⟩ := hrel
    have HBEL := Lib.hid hbel
    clear hbel hrg0 hg0 hs0 hown
    go_wp2_with (first
      | (at_next; refine wpList_next_ranges_ii _ rfl _ rfl 62 3 .u64 .i64 lawW Try.underlying62 Try.underlying3 b w.heap.size N _ _ _ rfl hrg ?_ ?_)
      | fail)
    · intro _ hl0
      go_wp2
      go_ret
      exact ⟨⟨k, rfl, low_end hlow.out hl0⟩, HBEL.out⟩
    · intro x c w1 cnt1 hwx hwc hlx hat hrg1 hlt hg1 hs1 hen
      obtain ⟨y, rfl, hy⟩ := key_nat HC.out hat
      have HY := Lib.hid hy
      have HLOW := Lib.hid (low_step hlow.out hy)
      have hyf := HF.out y hy
      have hfl5 := fullN_le n HN.out
      have hyz : (y : Int) ≤ 4294967295 := by omega
      have hkz : (k : Int) ≤ 4294967295 := by have := hlow.out.1; omega
      have HR := Lib.hid hrg1
      have HB1 := Lib.hid (HBEL.out.grown hg1 (by have := hrg.lt; omega) (fun j hj => by cases hj; exact Nat.le_refl _))
      have HM : Hid (w1.rangeLeft b w.heap.size < wr.rangeLeft b w.heap.size) := Lib.hid (by rw [hrg1.left_eq, hrg.left_eq]; exact hlt)
      have hmin : Hid (((min k y : Nat) : Int) = if y < k then (y : Int) else (k : Int)) := Lib.hid (by split <;> omega)
      clear hat hy hyf hfl5 hrg hg1 hs1 hlow hwx hwc hlx hlt hrg1
      go_wp2
      go_roundw
      case rel => exact ⟨min k y, _, cnt1, by rw [hmin.out], HLOW, HR.out, HB1.out⟩
      case measure => exact HM.out
end Go.Proofs.Ytecakbjcnabpnaa
