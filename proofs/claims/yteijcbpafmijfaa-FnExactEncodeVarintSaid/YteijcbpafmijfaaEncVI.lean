/-
  EncodeVarint of the program and of its model: both answer 'Plain.encV'.
-/
import Derived.Test.YteijcbpafmijfaaBase
import Derived.Test.YteijcbpafmijfaaNumA
import Derived.Deep.DeepMust
namespace Go.Proofs.Yteijcbpafmijfaa
open Go.RowKit Plain
set_option linter.unusedVariables false

theorem encV_in (n : Nat) (h : n ≤ 562949953421311) : encV (n : Int) = vbytes n := by
  unfold encV; rw [if_pos (by omega)]; rfl

/-- At a round's head: what is still to come, behind what has come, are the number's bytes. -/
def VRest (n m : Nat) (l : List UInt8) : Prop := l ++ vbytes m = vbytes n ∧ m ≤ 562949953421311 ∧ (l.length : Nat) + (vbytes m).length ≤ 7
theorem VRest.start {n : Nat} (h : n ≤ 562949953421311) : VRest n n [] := ⟨rfl, h, by have := vbytes_len7 n h; simp; omega⟩
theorem VRest.len {n m : Nat} {l : List UInt8} (h : VRest n m l) : l.length ≤ 6 := by
  have h1 := h.2.2
  have h2 : 1 ≤ (vbytes m).length := by rw [vbytes]; split <;> simp
  omega
theorem VRest.next {n m : Nat} {l : List UInt8} (h : VRest n m l) (hm : 128 ≤ m) : VRest n (m / 128) (l ++ [UInt8.ofNat (m % 128 + 128)]) := by
  obtain ⟨h1, h2, h3⟩ := h
  rw [vbytes_great m (by omega)] at h1 h3
  refine ⟨by rw [← h1]; simp, by omega, ?_⟩
  simp at h3 ⊢
  omega
theorem VRest.last {n m : Nat} {l : List UInt8} (h : VRest n m l) (hm : m < 128) : l ++ [UInt8.ofNat m] = vbytes n := by
  rw [← h.1, vbytes_small m hm]

set_option maxRecDepth 100000 in
set_option maxHeartbeats 1000000 in
theorem EncV.impl_in (n : Nat) (hn : n ≤ 562949953421311) (w : World) :
    Calls Try.prog 14 #[.int .i64 n] w fun e w' => e = .returned (.string ⟨(vbytes n).toArray⟩) ∧ Below w.heap.size w w' := by
  obtain ⟨i0, hi, hz0, hz1, hz2⟩ := info_parts Try.infoByte
  have h0 : decide ((n : Int) < 0) = false := by simp
  have h1 : decide (562949953421311 < (n : Int)) = false := by simp; omega
  have hmk : ∀ w : World, (Instr.makeSlice 36 (.int .i64 0) (.int .i64 7)).run Try.prog w = .ok (.slice (some ⟨w.heap.size, 0, none⟩) 0 7) (w.alloc (.cells (madeCells #[.int .u8 0] 7) 5)) := fun w => by kernel_rfl
  go_enter Try.func14, Try.ntmps14
  go_wp2
  go_loopw [0, 3] (fun x v wr => ∃ (m : Nat) (l : List UInt8), x = .int .i64 m ∧ VRest n m l ∧ ByteRow wr w.heap.size v l ∧ Below w.heap.size w wr) (fun x v _ => (intOf x).toNat)
  case atStart =>
    exact ⟨n, [], rfl, VRest.start hn, World.ownsRow_made w _ 7 (Nat.le_refl _) (by unfold maxLen; omega) (size_madeCells _ _), (Below.refl _ _).alloc (Nat.le_refl _) _⟩
  case round =>
    obtain ⟨m, l, rfl, hr, hown, hb⟩ := hrel
    have hl := hr.len
    have hm : (m : Int) ≤ 562949953421311 := by have := hr.2.1; omega
    have hB := hb.size
    clear h0 h1 hn
    by_cases hlt : 128 ≤ m
    · have hc : 0 ≤ (m : Int) % 128 + 128 ∧ (m : Int) % 128 + 128 ≤ 255 := by omega
      have hn1 := hr.next hlt
      have hc' : ((m : Int) % 128 + 128).toNat = m % 128 + 128 := by omega
      have HC := Lib.hid hc'
      clear hc' hi hz0 hz1 hz2
      go_wp2_with (at_builtin; go_must (refine wp_byte rfl _ _ rfl w.heap.size w wr _ l (m % 128 + 128) _ hown hb hB hc (by omega) rfl rfl rfl ?_; intro v1 w1 g1 g2 g3; rw [HC.out] at g1))
      go_roundw
      case rel => exact ⟨m / 128, _, by go_num, hn1, g1, g2⟩
      case measure => simp [intOf]; omega
    · have hc : 0 ≤ (m : Int) ∧ (m : Int) ≤ 255 := by omega
      have hn1 := hr.last (by omega)
      have HN := Lib.hid hn1
      clear hi hz0 hz1 hz2 hn1
      go_wp2_with (at_builtin; go_must (refine wp_byte rfl _ _ rfl w.heap.size w wr _ l m _ hown hb hB hc (by omega) rfl rfl rfl ?_; intro v1 w1 g1 g2 g3; have gt := g1.text; rw [show (m : Int).toNat = m from rfl, HN.out] at gt))
      go_ret
      exact ⟨rfl, g2⟩
theorem encV_out {n : Int} (h : ¬ (0 ≤ n ∧ n ≤ 562949953421311)) : encV n = [] := if_neg h

set_option maxRecDepth 100000 in
theorem EncV.impl_out (n : Int) (hn : ¬ (0 ≤ n ∧ n ≤ 562949953421311)) (w : World) :
    Calls Try.prog 14 #[.int .i64 n] w fun e w' => e = .returned (.string ⟨#[]⟩) ∧ w = w' := by
  by_cases h : n < 0
  · go_enter Try.func14, Try.ntmps14
    go_wp2
    go_ret
    exact ⟨rfl, rfl⟩
  · have h2 : 562949953421311 < n := by omega
    clear hn
    go_enter Try.func14, Try.ntmps14
    go_wp2
    go_ret
    exact ⟨rfl, rfl⟩

theorem EncV.impl (n : Int) (w : World) :
    Calls Try.prog 14 #[.int .i64 n] w fun e w' => e = .returned (.string ⟨(encV n).toArray⟩) ∧ Below w.heap.size w w' := by
  by_cases h : 0 ≤ n ∧ n ≤ 562949953421311
  · obtain ⟨k, rfl⟩ := Int.eq_ofNat_of_zero_le h.1
    rw [encV_in k (by omega)]
    exact EncV.impl_in k (by omega) w
  · rw [encV_out h]
    exact (EncV.impl_out n h w).mono fun e w' ⟨h1, h2⟩ => ⟨h1, h2 ▸ Below.refl _ _⟩
end Go.Proofs.Yteijcbpafmijfaa
