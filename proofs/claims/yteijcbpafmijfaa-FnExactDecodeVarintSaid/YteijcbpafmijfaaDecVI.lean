/-
  DecodeVarint of the program and of its model: both answer 'Plain.decN' and 'Plain.decK'.
-/
import Derived.Test.YteijcbpafmijfaaEncVI
import Derived.Test.YteijcbpafmijfaaBits
import Derived.Test.YteijcbpafmijfaaPlainV
import Derived.Deep.DeepMust
import Derived.Deep.RegionWith
import Derived.Lib.Strings
namespace Go.Proofs.Yteijcbpafmijfaa
open Go.RowKit Plain
set_option linter.unusedVariables false

theorem ret_ints {k : IntKind} {a b c d : Int} (h : a = b) (g : c = d) : Ending.returned (.tuple #[.int k a, .int k c]) = .returned (.tuple #[.int k b, .int k d]) := by rw [h, g]

theorem isV_long {s : List UInt8} {k : Nat} (h : s.length < k) : isV s k = false := by
  unfold isV; simp; omega

def Marked (s : ByteArray) (j : Nat) : Prop := ∀ x ∈ s.data.toList.take j, 128 ≤ x.toNat
theorem Marked.next {s : ByteArray} {j : Nat} (h : Marked s j) (hj : j < s.size) (hm : 128 ≤ (s[j].toNat : Int)) : Marked s (j + 1) := by
  intro x hx
  rw [take_snoc s j hj] at hx
  rcases List.mem_append.1 hx with hx | hx
  · exact h x hx
  · simp at hx; subst hx; omega
theorem lo_next (s : ByteArray) (j : Nat) (hj : j < s.size) : lo (s.data.toList.take (j + 1)) = lo (s.data.toList.take j) + s[j].toNat % 128 * 128 ^ j := by
  rw [take_snoc s j hj, lo_snoc, List.length_take, Nat.min_eq_left (by simp; omega)]
theorem or_group (a b j : Nat) (h : a < 128 ^ j) : (a ||| b * 128 ^ j) = a + b * 128 ^ j := by
  have e : 128 ^ j = 2 ^ (7 * j) := by rw [Nat.pow_mul]
  rw [e] at h ⊢
  rw [Nat.or_comm, show b * 2 ^ (7 * j) = b <<< (7 * j) by rw [Nat.shiftLeft_eq], ← Nat.shiftLeft_add_eq_or_of_lt h, Nat.add_comm]
theorem lo_bits (a c j : Nat) (ha : a < 128 ^ j) (hj : j < 7) : bits .or .i64 (a : Int) (wrap64 ((c : Int) % 128 * 2 ^ (7 * j))) = ((a + c % 128 * 128 ^ j : Nat) : Int) := by
  have h6 : 128 ^ j ≤ 128 ^ 6 := Nat.pow_le_pow_right (by omega) (by omega)
  have e : (2 : Int) ^ (7 * j) = ((128 ^ j : Nat) : Int) := by rw [Int.pow_mul]; norm_cast
  have e2 : (c : Int) % 128 * ((128 ^ j : Nat) : Int) = ((c % 128 * 128 ^ j : Nat) : Int) := by rw [Int.natCast_mul]; rfl
  have hb : c % 128 * 128 ^ j ≤ 127 * 128 ^ 6 := Nat.mul_le_mul (by omega) h6
  rw [e, e2, IntWalk.wrap64_in _ (by omega), or64 a _ (by omega) (by omega), or_group _ _ _ ha]
theorem Marked.zero (s : ByteArray) : Marked s 0 := by intro x hx; simp at hx

theorem Marked.none {s : ByteArray} {j i : Nat} (h : Marked s j) (hi : i ≤ j) : isV s.data.toList i = false := isV_marked h hi
theorem Marked.over {s : ByteArray} {j : Nat} (h : Marked s j) (hj : 7 ≤ j ∨ s.size ≤ j) (i : Nat) (hi : i ≤ 7) : isV s.data.toList i = false := by
  by_cases hij : i ≤ j
  · exact h.none hij
  · exact isV_long (by simp; omega)
theorem isV_here {s : ByteArray} {j : Nat} (h : Marked s j) (hj : j < s.size) (hm : (s[j].toNat : Int) < 128) (hv : isV s.data.toList (j + 1) = false) (i : Nat) : isV s.data.toList i = false := by
  by_cases hij : i ≤ j
  · exact h.none hij
  · by_cases he : i = j + 1
    · rw [he]; exact hv
    · refine isV_past (i := j) s[j] ?_ (by omega) (by omega)
      rw [List.getElem?_eq_getElem (by simpa using hj)]; rfl
theorem isV_upto {s : List UInt8} {k : Nat} (h : ∀ j, j < k → isV s j = false) (hk : isV s k = false) : ∀ j, j < k + 1 → isV s j = false := by
  intro j hj
  by_cases e : j = k
  · rw [e]; exact hk
  · exact h j (by omega)
theorem isV_end {s : ByteArray} {k : Nat} (h : ∀ j, j < k → isV s.data.toList j = false) (hk : ¬ (k ≤ 7 ∧ k ≤ s.size)) (i : Nat) (hi : i ≤ 7) : isV s.data.toList i = false := by
  by_cases e : i < k
  · exact h i e
  · exact isV_long (by simp; omega)
theorem pre_list (s : ByteArray) (k : Nat) : (s.extract 0 k).toList = s.data.toList.take k := by
  rw [ByteArray.toList_eq, Lib.extract_data]; rfl
theorem isV_of_false {s : ByteArray} {k : Nat} (hk : k ≤ s.size) (h : (!vbytes (lo (s.data.toList.take k)) == (s.extract 0 k).toList) = false) : isV s.data.toList k = true := by
  rw [pre_list] at h
  unfold isV
  have h1 : decide (k ≤ s.data.toList.length) = true := by simpa using hk
  rw [h1, Bool.true_and, decide_eq_true_eq]
  simpa using h
theorem isV_of_true {s : ByteArray} {k : Nat} (h : (!vbytes (lo (s.data.toList.take k)) == (s.extract 0 k).toList) = true) : isV s.data.toList k = false := by
  rw [pre_list] at h
  unfold isV
  simp at h ⊢
  intro _
  exact h

set_option maxRecDepth 100000 in
set_option maxHeartbeats 1000000 in
theorem DecV.impl (s : ByteArray) (hs : (s.size : Int) ≤ 4000000) (w : World) :
    Calls Try.prog 16 #[.string s] w fun e w' => e = .returned (.tuple #[.int .i64 (decN s.data.toList), .int .i64 (decK s.data.toList)]) ∧ Below w.heap.size w w' := by
  go_enter Try.func16, Try.ntmps16
  go_wp2
  all_goals
    go_loopw [4, 9] (fun n i wr => ∃ j : Nat, j ≤ 7 ∧ j ≤ s.size ∧ i = .int .i64 (j : Int) ∧ n = .int .i64 (lo (s.data.toList.take j) : Int) ∧ Marked s j ∧ Below w.heap.size w wr) (fun _ i _ => 7 - (intOf i).toNat)
    case atStart => exact ⟨0, by omega, by omega, rfl, rfl, Marked.zero s, Below.refl _ _⟩
    case round =>
      obtain ⟨j, hj7, hjs, rfl, rfl, hmk, hb⟩ := hrel
      have hB := hb.size
      by_cases hlt : j < 7 ∧ j < s.size
      · obtain ⟨hlt7, hjlt⟩ := hlt
        have hlo := lo_lt (s.data.toList.take j)
        have hl63 : (lo (s.data.toList.take j) : Int) ≤ 4611686018427387904 := by
          rw [List.length_take, Nat.min_eq_left (by simpa using hjs)] at hlo
          have : 128 ^ j ≤ 128 ^ 6 := Nat.pow_le_pow_right (by omega) (by omega)
          omega
        have hc : (s[j].toNat : Int) < 256 := by have := s[j].toNat_lt; omega
        have hln := lo_next s j hjlt
        have hv := lo_bits (lo (s.data.toList.take j)) s[j].toNat j (by rw [List.length_take, Nat.min_eq_left (by simpa using hjs)] at hlo; exact hlo) hlt7
        rw [← hln] at hv
        have hl7 : lo (s.data.toList.take (j + 1)) ≤ 562949953421311 := by
          have := lo_lt (s.data.toList.take (j + 1))
          rw [List.length_take, Nat.min_eq_left (by simp; omega)] at this
          have : 128 ^ (j + 1) ≤ 128 ^ 7 := Nat.pow_le_pow_right (by omega) (by omega)
          omega
        have HL := Lib.hid hl7
        clear hlo hs hln hl7
        by_cases hm : 128 ≤ (s[j].toNat : Int)
        · have hmk2 : Marked s (j + 1) := Marked.next hmk hjlt hm
          go_wp2
          go_roundw
          case rel => exact ⟨j + 1, by omega, by omega, by go_num, rfl, hmk2, hb⟩
          case measure => simp [intOf]; omega
        · have hm' : (s[j].toNat : Int) < 128 := by omega
          clear hm
          have q1 : (j : Int) + 1 ≤ (s.size : Int) := by omega
          have q2 : 0 ≤ (j : Int) + 1 := by omega
          have q3 : IntKind.i64.wrap ((j : Int) + 1) = (j : Int) + 1 := IntWalk.i64_in _ (by omega)
          have q4 : ((j : Int) + 1).toNat = j + 1 := by omega
          go_wp2
          go_region_with (go_at_call 14; refine (EncV.impl_in _ HL.out _).mono ?_; rintro e w' ⟨rfl, hb2⟩)
          clear q2 q3 q4
          go_wp2
          · have ht : (!vbytes (lo (s.data.toList.take (j + 1))) == (s.extract 0 (j + 1)).toList) = true := by assumption
            have hv2 := isV_of_true ht
            have HK := decK_no (s := s.data.toList) (fun i _ => isV_here hmk hjlt hm' hv2 i)
            have HN := decN_no HK
            go_ret2
            exact ⟨ret_ints (by rw [HN]; rfl) (by rw [HK]; rfl), hb.drew.trans (hb2.mono hB)⟩
          · have ht : (!vbytes (lo (s.data.toList.take (j + 1))) == (s.extract 0 (j + 1)).toList) = false := by assumption
            have hv2 := isV_of_false (by omega) ht
            have HK := decK_yes (by omega) hv2 (fun i hi => hmk.none (by omega))
            have HN := decN_yes HK (by omega)
            go_ret2
            exact ⟨ret_ints (by rw [HN]) (by rw [HK]; omega), hb.drew.trans (hb2.mono hB)⟩
      · have HK := Lib.hid (decK_no (s := s.data.toList) (fun i hi => hmk.over (by omega) i hi))
        have HN := Lib.hid (decN_no HK.out)
        have hge : ¬ ((j : Int) < 7) ∨ ¬ ((j : Int) < (s.size : Int)) := by omega
        first
          | (have hge : ¬ ((j : Int) < 7) := by omega
             clear hs
             go_wp2
             go_ret2
             exact ⟨ret_ints (by rw [HN.out]; rfl) (by rw [HK.out]; rfl), hb⟩)
          | (have hge : ¬ ((j : Int) < (s.size : Int)) := by omega
             clear hs
             go_wp2
             go_ret2
             exact ⟨ret_ints (by rw [HN.out]; rfl) (by rw [HK.out]; rfl), hb⟩)

theorem lo_drop (s : ByteArray) (k t : Nat) (ht : t < k) (hk : k ≤ s.size) (h : t < s.size) : lo ((s.data.toList.take k).drop t) = s[t].toNat % 128 + 128 * lo ((s.data.toList.take k).drop (t + 1)) := by
  have hl : t < (s.data.toList.take k).length := by rw [List.length_take]; simp; omega
  rw [List.drop_eq_getElem_cons hl]
  simp only [lo, List.getElem_take]
  rfl
end Go.Proofs.Yteijcbpafmijfaa
