/-
  ParseTable of the program and of its model: the length is a power of two, and each byte is a digit 0 or 1.
-/
import Derived.Test.YtphjaggiddjhgaaDoorTabK
import Derived.Test.YtphjaggiddjhgaaDoorTz
namespace Go.Proofs.YtphjaggiddjhgaaDoor
open Go.RowKit Plain
set_option linter.unusedVariables false

/-- The word of the first k digits. -/
def Plain.parW (s : ByteArray) : Nat → Nat
  | 0 => 0
  | k + 1 => if s.data.toList.getD k 0 = 49 then parW s k ||| 2 ^ k else parW s k

theorem parW_lt (s : ByteArray) (x : Nat) : parW s x < 2 ^ x := by
  induction x with
  | zero => exact Nat.one_pos
  | succ x ih =>
    unfold parW
    have hx : 2 ^ x < 2 ^ (x + 1) := Nat.pow_lt_pow_right (by decide) (by omega)
    split
    · exact Nat.or_lt_two_pow (by omega) hx
    · omega

theorem parW_bound (s : ByteArray) (x : Nat) (hx : x ≤ 32) : (parW s x : Int) ≤ 4294967295 := by
  have h1 := parW_lt s x
  have h2 : 2 ^ x ≤ 2 ^ 32 := Nat.pow_le_pow_right (by decide) hx
  omega

theorem getD_byte (s : ByteArray) (k : Nat) (h : k < s.size) : s.data.toList.getD k 0 = s[k] := by
  have h' : k < s.data.toList.length := by simpa using h
  rw [List.getD_eq_getElem?_getD, List.getElem?_eq_getElem h']
  rfl

theorem parW_one {s : ByteArray} {k : Nat} (h : k < s.size) (hc : s[k] = 49) : parW s (k + 1) = parW s k ||| 2 ^ k := by
  show (if _ then _ else _) = _
  rw [getD_byte s k h, if_pos hc]

theorem parW_zero {s : ByteArray} {k : Nat} (h : k < s.size) (hc : s[k] = 48) : parW s (k + 1) = parW s k := by
  show (if _ then _ else _) = _
  rw [getD_byte s k h, if_neg (by rw [hc]; decide)]

theorem byteTest (c : UInt8) (k : Nat) (hk : k < 256) : ((c.toNat : Int) == (k : Int)) = decide (c = UInt8.ofNat k) := by
  have e : ((c.toNat : Int) == (k : Int)) = decide ((c.toNat : Int) = (k : Int)) := rfl
  rw [e]
  congr 1
  rw [eq_iff_iff]
  constructor
  · intro h
    apply UInt8.toNat_inj.1
    rw [UInt8.toNat_ofNat']; omega
  · intro h
    subst h
    rw [UInt8.toNat_ofNat']; omega

theorem is48 (c : UInt8) (h : c = 48) : ((c.toNat : Int) == 48) = true ∧ ((c.toNat : Int) == 49) = false := by subst h; exact ⟨rfl, rfl⟩
theorem is49 (c : UInt8) (h : c = 49) : ((c.toNat : Int) == 48) = false ∧ ((c.toNat : Int) == 49) = true := by subst h; exact ⟨rfl, rfl⟩
theorem isNot (c : UInt8) (h : ¬ (c = 48 ∨ c = 49)) : ((c.toNat : Int) == 48) = false ∧ ((c.toNat : Int) == 49) = false := by
  refine ⟨?_, ?_⟩
  · have := byteTest c 48 (by decide)
    rw [show ((48 : Nat) : Int) = 48 from rfl] at this
    rw [this]; exact decide_eq_false fun e => h (.inl e)
  · have := byteTest c 49 (by decide)
    rw [show ((49 : Nat) : Int) = 49 from rfl] at this
    rw [this]; exact decide_eq_false fun e => h (.inr e)

/-- The first bytes are digits. -/
def Digs01 (s : ByteArray) (k : Nat) : Prop := ∀ j, (h : j < s.size) → j < k → s[j] = 48 ∨ s[j] = 49

theorem first_bad (s : ByteArray) : ∀ k, k ≤ s.size → Digs01 s k ∨ ∃ b, ∃ h : b < s.size, b < k ∧ Digs01 s b ∧ ¬ (s[b] = 48 ∨ s[b] = 49) := by
  intro k
  induction k with
  | zero => intro _; exact .inl fun j _ h => absurd h (by omega)
  | succ k ih =>
    intro hk
    rcases ih (by omega) with h | ⟨b, hb, hl, h1, h2⟩
    · by_cases hc : s[k]'(by omega) = 48 ∨ s[k]'(by omega) = 49
      · refine .inl fun j hj hl => ?_
        by_cases he : j = k
        · subst he; exact hc
        · exact h j hj (by omega)
      · exact .inr ⟨k, by omega, by omega, h, hc⟩
    · exact .inr ⟨b, hb, by omega, h1, h2⟩

/-- The test of a length against 2^n. -/
theorem len_test (z n : Nat) (m : Nat) (hz : z = 2 ^ m) (hn : n < m) (hm : m ≤ 5) : ((z : Int) == (2 : Int) ^ n) = false ∧ ((z : Int) != (2 : Int) ^ n) = true := by
  have h : (z : Int) ≠ (2 : Int) ^ n := by
    rw [up2, hz]
    have := Nat.pow_lt_pow_right (a := 2) (by decide) hn
    omega
  exact ⟨by simpa using h, by simpa using h⟩
theorem len_same (z m : Nat) (hz : z = 2 ^ m) : ((z : Int) == (2 : Int) ^ m) = true ∧ ((z : Int) != (2 : Int) ^ m) = false := by
  have h : (z : Int) = (2 : Int) ^ m := by rw [up2, hz]
  exact ⟨by simpa using h, by simpa using h⟩

set_option maxRecDepth 100000 in
set_option maxHeartbeats 1000000 in
theorem Par.M_good (s : ByteArray) (m : Nat) (hm : m ≤ 5) (hs : s.size = 2 ^ m) (hg : Digs01 s s.size) (w : World) :
    Calls Tryd.prog 6 #[.string s] w fun e w' => e = .returned (.tuple #[.agg #[.int .i64 m, .int .i64 (parW s s.size : Int)], .bool true]) ∧ Below w.heap.size w w' := by
  have h32 : (s.size : Int) ≤ 32 := by have := two_pow_le m hm; omega
  have HG := Lib.hid hg
  have HS := Lib.hid hs
  clear hg hs
  go_enter Tryd.func6, Tryd.ntmps6
  go_wp2
  go_loop [4, 5, 6] (fun n _ _ => ∃ k : Nat, k ≤ m ∧ n = .int .i64 (k : Int)) (fun n _ _ => 6 - (intOf n).toNat)
  case atStart => exact ⟨0, by omega, rfl⟩
  case round =>
    obtain ⟨k, hk, rfl⟩ := hrel
    obtain ⟨hp1, hp2⟩ := two_pow_int k (by omega)
    by_cases hkm : k = m
    · subst hkm
      obtain ⟨t1, t2⟩ := len_same s.size k HS.out
      go_wp2
      go_loop [5, 6] (fun a x => ∃ y : Nat, y ≤ s.size ∧ x = .int .i64 (y : Int) ∧ a = .int .i64 (parW s y : Int)) (fun _ x => 33 - (intOf x).toNat)
      case atStart => exact ⟨0, Nat.zero_le _, rfl, rfl⟩
      case round =>
        obtain ⟨y, hy, rfl, rfl⟩ := hrel
        by_cases hlt : y < s.size
        · have HO := Lib.hid (orbit_i64 (parW s y) y (parW_bound s y (by omega)) (by omega))
          rcases HG.out y hlt (by omega) with hc | hc
          · obtain ⟨q1, q2⟩ := is48 s[y] hc
            have HV := Lib.hid (parW_zero hlt hc)
            clear hc t1 t2
            go_wp2
            go_round
            case rel => exact ⟨y + 1, by omega, by go_num, by rw [HV.out]⟩
            case measure => simp [intOf]; omega
          · obtain ⟨q1, q2⟩ := is49 s[y] hc
            have HV := Lib.hid (parW_one hlt hc)
            clear hc t1 t2
            go_wp2
            go_round
            case rel => exact ⟨y + 1, by omega, by go_num, by rw [HV.out, HO.out]⟩
            case measure => simp [intOf]; omega
        · obtain rfl : y = s.size := by omega
          clear t1 t2
          go_wp2
          exact bodyPost_ret (v := .tuple #[.agg #[.int .i64 k, .int .i64 (parW s s.size : Int)], .bool true]) (by simp [results, Tryd.results6, go_sem]) rfl ⟨rfl, (Below.refl _ _).alloc (Nat.le_refl _) _⟩
    · obtain ⟨t1, t2⟩ := len_test s.size k m HS.out (by omega) hm
      go_wp2
      go_round
      case rel => exact ⟨k + 1, by omega, by go_num⟩
      case measure => simp [intOf]; omega
set_option maxRecDepth 100000 in
set_option maxHeartbeats 1000000 in
theorem Par.M_bad (s : ByteArray) (m : Nat) (hm : m ≤ 5) (hs : s.size = 2 ^ m) (b : Nat) (hb : b < s.size) (hg : Digs01 s b) (hn : ¬ (s[b] = 48 ∨ s[b] = 49)) (w : World) :
    Calls Tryd.prog 6 #[.string s] w fun e w' => e = .returned (.tuple #[.agg #[.int .i64 0, .int .i64 0], .bool false]) ∧ Below w.heap.size w w' := by
  have h32 : (s.size : Int) ≤ 32 := by have := two_pow_le m hm; omega
  have HG := Lib.hid hg
  have HN := Lib.hid (isNot _ hn)
  have HS := Lib.hid hs
  clear hg hs hn
  go_enter Tryd.func6, Tryd.ntmps6
  go_wp2
  go_loop [4, 5, 6] (fun n _ _ => ∃ k : Nat, k ≤ m ∧ n = .int .i64 (k : Int)) (fun n _ _ => 6 - (intOf n).toNat)
  case atStart => exact ⟨0, by omega, rfl⟩
  case round =>
    obtain ⟨k, hk, rfl⟩ := hrel
    obtain ⟨hp1, hp2⟩ := two_pow_int k (by omega)
    by_cases hkm : k = m
    · subst hkm
      obtain ⟨t1, t2⟩ := len_same s.size k HS.out
      go_wp2
      go_loop [5, 6] (fun a x => ∃ y : Nat, y ≤ b ∧ x = .int .i64 (y : Int) ∧ a = .int .i64 (parW s y : Int)) (fun _ x => 33 - (intOf x).toNat)
      case atStart => exact ⟨0, Nat.zero_le _, rfl, rfl⟩
      case round =>
        obtain ⟨y, hy, rfl, rfl⟩ := hrel
        by_cases hltb : y < b
        · have hlt : y < s.size := by omega
          have HO := Lib.hid (orbit_i64 (parW s y) y (parW_bound s y (by omega)) (by omega))
          rcases HG.out y hlt (by omega) with hc | hc
          · obtain ⟨q1, q2⟩ := is48 s[y] hc
            have HV := Lib.hid (parW_zero hlt hc)
            clear hc t1 t2
            go_wp2
            go_round
            case rel => exact ⟨y + 1, by omega, by go_num, by rw [HV.out]⟩
            case measure => simp [intOf]; omega
          · obtain ⟨q1, q2⟩ := is49 s[y] hc
            have HV := Lib.hid (parW_one hlt hc)
            clear hc t1 t2
            go_wp2
            go_round
            case rel => exact ⟨y + 1, by omega, by go_num, by rw [HV.out, HO.out]⟩
            case measure => simp [intOf]; omega
        · obtain rfl : y = b := by omega
          obtain ⟨q1, q2⟩ := HN.out
          clear t1 t2
          go_wp2
          exact bodyPost_ret (v := .tuple #[.agg #[.int .i64 0, .int .i64 0], .bool false]) (by simp [results, Tryd.results6, go_sem]) rfl ⟨rfl, (Below.refl _ _).alloc (Nat.le_refl _) _⟩
    · obtain ⟨t1, t2⟩ := len_test s.size k m HS.out (by omega) hm
      go_wp2
      go_round
      case rel => exact ⟨k + 1, by omega, by go_num⟩
      case measure => simp [intOf]; omega

theorem not_pow (z : Nat) (hz : ∀ m, m ≤ 5 → z ≠ 2 ^ m) (n : Nat) (hn : n ≤ 5) : ((z : Int) == (2 : Int) ^ n) = false ∧ ((z : Int) != (2 : Int) ^ n) = true := by
  have h : (z : Int) ≠ (2 : Int) ^ n := by
    rw [up2]
    have := hz n hn
    omega
  exact ⟨by simpa using h, by simpa using h⟩

set_option maxRecDepth 100000 in
theorem Par.M_none (s : ByteArray) (hz : ∀ m, m ≤ 5 → s.size ≠ 2 ^ m) (hs : (s.size : Int) ≤ 1048576) (w : World) :
    Calls Tryd.prog 6 #[.string s] w fun e w' => e = .returned (.tuple #[.agg #[.int .i64 0, .int .i64 0], .bool false]) ∧ Below w.heap.size w w' := by
  have HZ := Lib.hid (not_pow s.size hz)
  clear hz
  go_enter Tryd.func6, Tryd.ntmps6
  go_wp2
  go_loop [4, 5, 6] (fun n _ _ => ∃ k : Nat, k ≤ 6 ∧ n = .int .i64 (k : Int)) (fun n _ _ => 7 - (intOf n).toNat)
  case atStart => exact ⟨0, by omega, rfl⟩
  case round =>
    obtain ⟨k, hk, rfl⟩ := hrel
    by_cases hkm : k ≤ 5
    · obtain ⟨t1, t2⟩ := HZ.out k hkm
      obtain ⟨hp1, hp2⟩ := two_pow_int k hkm
      go_wp2
      go_round
      case rel => exact ⟨k + 1, by omega, by go_num⟩
      case measure => simp [intOf]; omega
    · obtain rfl : k = 6 := by omega
      go_wp2
      exact bodyPost_ret (v := .tuple #[.agg #[.int .i64 0, .int .i64 0], .bool false]) (by simp [results, Tryd.results6, go_sem]) rfl ⟨rfl, (Below.refl _ _).alloc (Nat.le_refl _) _⟩

end Go.Proofs.YtphjaggiddjhgaaDoor
