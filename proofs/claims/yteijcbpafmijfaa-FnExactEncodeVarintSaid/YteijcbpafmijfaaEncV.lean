/-
  EncodeVarint of the program and of its model: both answer 'Plain.encV'.
-/
import Derived.Test.YteijcbpafmijfaaBase
import Derived.Test.YteijcbpafmijfaaNumA
import Derived.Deep.DeepMust
import Derived.Test.YteijcbpafmijfaaEncVI
namespace Go.Proofs.Yteijcbpafmijfaa
open Go.RowKit Plain
set_option linter.unusedVariables false
set_option maxRecDepth 100000 in
set_option maxHeartbeats 1000000 in
theorem EncV.spec_in (n : Nat) (hn : n ≤ 562949953421311) (w : World) :
    Calls Try.prog 13 #[.int .i64 n] w fun e w' => e = .returned (.string ⟨(vbytes n).toArray⟩) ∧ Below w.heap.size w w' := by
  obtain ⟨i0, hi, hz0, hz1, hz2⟩ := info_parts Try.infoByte
  have h1 : inB (n : Int) 0 562949953421311 = true := inB_yes (by omega)
  go_enter Try.func13, Try.ntmps13
  go_wp2_with (go_at_call 21; refine (Widths.inRange _ _ _ _).mono ?_; rintro e w' ⟨rfl, rfl⟩)
  go_loopw [0, 3] (fun x v wr => ∃ (m : Nat) (l : List UInt8), x = .int .i64 m ∧ VRest n m l ∧ ByteRow wr w.heap.size v l ∧ Below w.heap.size w wr) (fun x v _ => (intOf x).toNat)
  case atStart =>
    exact ⟨n, [], rfl, VRest.start hn, World.ownsRow_lit w _ 0 (Nat.le_refl _) (by unfold maxLen; omega) rfl, (Below.refl _ _).alloc (Nat.le_refl _) _⟩
  case round =>
    obtain ⟨m, l, rfl, hr, hown, hb⟩ := hrel
    have hl := hr.len
    have hm : (m : Int) ≤ 562949953421311 := by have := hr.2.1; omega
    have hB := hb.size
    clear h1 hn
    by_cases hlt : 128 ≤ m
    · have hc : 0 ≤ 128 + (m : Int) % 128 ∧ 128 + (m : Int) % 128 ≤ 255 := by omega
      have hn1 := hr.next hlt
      have hc' : (128 + (m : Int) % 128).toNat = m % 128 + 128 := by omega
      have HC := Lib.hid hc'
      clear hc' hi hz0 hz1 hz2
      go_wp2_with (at_builtin; go_must (refine wp_byte rfl _ _ rfl w.heap.size w wr _ l (128 + m % 128) _ hown hb hB hc (by omega) rfl rfl rfl ?_; intro v1 w1 g1 g2 g3; rw [HC.out] at g1))
      go_roundw
      case rel => exact ⟨m / 128, _, by go_num, hn1, g1, g2⟩
      case measure => simp [intOf]; omega
    · have hc : 0 ≤ (m : Int) ∧ (m : Int) ≤ 255 := by omega
      have hn1 := hr.last (by omega)
      have HN := Lib.hid hn1
      clear hi hz0 hz1 hz2 hn1
      go_wp2_with (at_builtin; go_must (refine wp_byte rfl _ _ rfl w.heap.size w wr _ l m _ hown hb hB hc (by omega) rfl rfl rfl ?_; intro v1 w1 g1 g2 g3; have gt := g1.text; rw [show (m : Int).toNat = m from rfl, HN.out] at gt))
      go_ret
      exact ⟨rfl, g2⟩

set_option maxRecDepth 100000 in
theorem EncV.spec_out (n : Int) (hn : ¬ (0 ≤ n ∧ n ≤ 562949953421311)) (w : World) :
    Calls Try.prog 13 #[.int .i64 n] w fun e w' => e = .returned (.string ⟨#[]⟩) ∧ w = w' := by
  have h1 : inB n 0 562949953421311 = false := inB_no hn
  clear hn
  go_enter Try.func13, Try.ntmps13
  go_wp2_with (go_at_call 21; refine (Widths.inRange _ _ _ _).mono ?_; rintro e w' ⟨rfl, rfl⟩)
  go_ret
  exact ⟨rfl, rfl⟩

theorem EncV.spec (n : Int) (w : World) :
    Calls Try.prog 13 #[.int .i64 n] w fun e w' => e = .returned (.string ⟨(encV n).toArray⟩) ∧ Below w.heap.size w w' := by
  by_cases h : 0 ≤ n ∧ n ≤ 562949953421311
  · obtain ⟨k, rfl⟩ := Int.eq_ofNat_of_zero_le h.1
    rw [encV_in k (by omega)]
    exact EncV.spec_in k (by omega) w
  · rw [encV_out h]
    exact (EncV.spec_out n h w).mono fun e w' ⟨h1, h2⟩ => ⟨h1, h2 ▸ Below.refl _ _⟩
end Go.Proofs.Yteijcbpafmijfaa
