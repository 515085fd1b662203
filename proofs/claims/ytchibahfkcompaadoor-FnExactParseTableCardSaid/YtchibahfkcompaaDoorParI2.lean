/-
  ParseTable of the program; both answer 'Plain.parT'.
-/
import Derived.Test.YtchibahfkcompaaDoorPar
namespace Go.Proofs.YtchibahfkcompaaDoor
open Go.RowKit Plain
set_option linter.unusedVariables false

theorem ctz_pow (m : Nat) (hm : m ≤ 5) : Lib.ctz 64 (2 ^ m) = m := by
  rcases cases5 m hm with rfl | rfl | rfl | rfl | rfl | rfl <;> decide +kernel

theorem Tab.bitsB (n : Int) (b : Bool) (h : inB n 0 5 = b) (w : World) :
    Calls Tryd.prog 8 #[.int .i64 n] w fun e w' => e = .returned (.bool b) ∧ w = w' := h ▸ Tab.bits n w

set_option maxRecDepth 100000 in
theorem Par.I_none (s : ByteArray) (hz : ∀ m, m ≤ 5 → s.size ≠ 2 ^ m) (hs : (s.size : Int) ≤ 1048576) (w : World) (hT : Tz64 w) :
    Calls Tryd.prog 5 #[.string s] w fun e w' => e = .returned (.tuple #[.agg #[.int .i64 0, .int .i64 0], .bool false]) ∧ Below w.heap.size w w' := by
  have HZ := Lib.hid (not_pow s.size hz)
  have HT : Hid (Tz64 (w.alloc (.cells #[.int .i64 0, .int .i64 0] 23))) := Lib.hid (hT.stays ((Below.refl _ _).alloc (Nat.le_refl _) _) (Nat.le_refl _))
  obtain ⟨c, hc⟩ : ∃ c : Nat, c = Lib.ctz 64 s.size := ⟨_, rfl⟩
  have HTZ := Lib.hid (Tz.any s.size (by omega))
  rw [← hc] at HTZ
  clear hz hT hc
  go_enter Tryd.func5, Tryd.ntmps5
  go_wp2_with fail
  refine (HTZ.out _ HT.out).mono ?_
  rintro e w1 ⟨rfl, rfl⟩
  by_cases h5 : c ≤ 5
  · obtain ⟨t1, t2⟩ := HZ.out c h5
    obtain ⟨hp1, hp2⟩ := two_pow_int c h5
    go_wp2_with fail
    refine (Tab.bitsB _ true (inB_yes (by omega)) _).mono ?_
    rintro e w1 ⟨rfl, rfl⟩
    go_wp2_with fail
    refine (Tab.count c h5 _).mono ?_
    rintro e w1 ⟨rfl, rfl⟩
    go_wp2
    exact bodyPost_ret (v := .tuple #[.agg #[.int .i64 0, .int .i64 0], .bool false]) (by simp [results, Tryd.results5, go_sem]) rfl ⟨rfl, (Below.refl _ _).alloc (Nat.le_refl _) _⟩
  · go_wp2_with fail
    refine (Tab.bitsB _ false (inB_no (by omega)) _).mono ?_
    rintro e w1 ⟨rfl, rfl⟩
    go_wp2
    exact bodyPost_ret (v := .tuple #[.agg #[.int .i64 0, .int .i64 0], .bool false]) (by simp [results, Tryd.results5, go_sem]) rfl ⟨rfl, (Below.refl _ _).alloc (Nat.le_refl _) _⟩

set_option maxRecDepth 100000 in
set_option maxHeartbeats 1000000 in
theorem Par.I_good (s : ByteArray) (m : Nat) (hm : m ≤ 5) (hs : s.size = 2 ^ m) (hg : Digs01 s s.size) (w : World) (hT : Tz64 w) :
    Calls Tryd.prog 5 #[.string s] w fun e w' => e = .returned (.tuple #[.agg #[.int .i64 m, .int .i64 (parW s s.size : Int)], .bool true]) ∧ Below w.heap.size w w' := by
  have h32 : (s.size : Int) ≤ 32 := by have := two_pow_le m hm; omega
  have hpb := parW_bound s s.size (by omega)
  have HG := Lib.hid hg
  have HT : Hid (Tz64 (w.alloc (.cells #[.int .i64 0, .int .i64 0] 23))) := Lib.hid (hT.stays ((Below.refl _ _).alloc (Nat.le_refl _) _) (Nat.le_refl _))
  have HTZ := Lib.hid (Tz.any s.size (by omega))
  rw [show Lib.ctz 64 s.size = m by rw [hs]; exact ctz_pow m hm] at HTZ
  obtain ⟨t1, t2⟩ := len_same s.size m hs
  have hc := Lib.hid (Tab.count m hm)
  rw [← hs] at hc
  clear hg hT hs
  go_enter Tryd.func5, Tryd.ntmps5
  go_wp2_with fail
  refine (HTZ.out _ HT.out).mono ?_
  rintro e w1 ⟨rfl, rfl⟩
  go_wp2_with fail
  refine (Tab.bitsB _ true (inB_yes (by omega)) _).mono ?_
  rintro e w1 ⟨rfl, rfl⟩
  go_wp2_with fail
  refine (hc.out _).mono ?_
  rintro e w1 ⟨rfl, rfl⟩
  go_wp2_with fail
  clear t1 t2
  go_loop [5, 6, 24] (fun a _ x => ∃ y : Nat, y ≤ s.size ∧ x = .int .i64 (y : Int) ∧ a = .int .u64 (parW s y : Int)) (fun _ _ x => 33 - (intOf x).toNat)
  case atStart => exact ⟨0, Nat.zero_le _, rfl, rfl⟩
  case round =>
    obtain ⟨y, hy, rfl, rfl⟩ := hrel
    by_cases hlt : y < s.size
    · have hyb := parW_bound s y (by omega)
      rcases HG.out y hlt (by omega) with hc | hc
      · obtain ⟨q1, q2⟩ := is48 s[y] hc
        have HV := Lib.hid (parW_zero hlt hc)
        clear hc
        go_wp2_with fail
        go_round
        case rel => exact ⟨y + 1, by omega, by go_num, by rw [HV.out]⟩
        case measure => simp [intOf]; omega
      · obtain ⟨q1, q2⟩ := is49 s[y] hc
        have HV := Lib.hid (parW_one hlt hc)
        clear hc
        go_wp2_with fail
        refine (Tab.withBit _ _ hyb (by omega) _).mono ?_
        rintro e w1 ⟨rfl, rfl⟩
        go_wp2_with fail
        go_round
        case rel => exact ⟨y + 1, by omega, by go_num, by rw [HV.out]⟩
        case measure => simp [intOf]; omega
    · obtain rfl : y = s.size := by omega
      go_wp2_with fail
      refine (Tab.tableX' m _ (by omega) _).mono ?_
      rintro e w1 ⟨rfl, rfl⟩
      go_wp2
      exact bodyPost_ret (v := .tuple #[.agg #[.int .i64 m, .int .i64 (parW s s.size : Int)], .bool true]) (by simp [results, Tryd.results5, go_sem]) rfl ⟨rfl, ((Below.refl _ _).alloc (Nat.le_refl _) _).alloc (by simp) _⟩
set_option maxRecDepth 100000 in
set_option maxHeartbeats 1000000 in
theorem Par.I_bad (s : ByteArray) (m : Nat) (hm : m ≤ 5) (hs : s.size = 2 ^ m) (b : Nat) (hb : b < s.size) (hg : Digs01 s b) (hn : ¬ (s[b] = 48 ∨ s[b] = 49)) (w : World) (hT : Tz64 w) :
    Calls Tryd.prog 5 #[.string s] w fun e w' => e = .returned (.tuple #[.agg #[.int .i64 0, .int .i64 0], .bool false]) ∧ Below w.heap.size w w' := by
  have h32 : (s.size : Int) ≤ 32 := by have := two_pow_le m hm; omega
  have hpb := parW_bound s s.size (by omega)
  have HG := Lib.hid hg
  have HN := Lib.hid (isNot _ hn)
  have HT : Hid (Tz64 (w.alloc (.cells #[.int .i64 0, .int .i64 0] 23))) := Lib.hid (hT.stays ((Below.refl _ _).alloc (Nat.le_refl _) _) (Nat.le_refl _))
  have HTZ := Lib.hid (Tz.any s.size (by omega))
  rw [show Lib.ctz 64 s.size = m by rw [hs]; exact ctz_pow m hm] at HTZ
  obtain ⟨t1, t2⟩ := len_same s.size m hs
  have hc := Lib.hid (Tab.count m hm)
  rw [← hs] at hc
  clear hg hT hs hn
  go_enter Tryd.func5, Tryd.ntmps5
  go_wp2_with fail
  refine (HTZ.out _ HT.out).mono ?_
  rintro e w1 ⟨rfl, rfl⟩
  go_wp2_with fail
  refine (Tab.bitsB _ true (inB_yes (by omega)) _).mono ?_
  rintro e w1 ⟨rfl, rfl⟩
  go_wp2_with fail
  refine (hc.out _).mono ?_
  rintro e w1 ⟨rfl, rfl⟩
  go_wp2_with fail
  clear t1 t2
  go_loop [5, 6, 24] (fun a _ x => ∃ y : Nat, y ≤ b ∧ x = .int .i64 (y : Int) ∧ a = .int .u64 (parW s y : Int)) (fun _ _ x => 33 - (intOf x).toNat)
  case atStart => exact ⟨0, Nat.zero_le _, rfl, rfl⟩
  case round =>
    obtain ⟨y, hy, rfl, rfl⟩ := hrel
    by_cases hltb : y < b
    · have hlt : y < s.size := by omega
      have hyb := parW_bound s y (by omega)
      rcases HG.out y hlt (by omega) with hc | hc
      · obtain ⟨q1, q2⟩ := is48 s[y] hc
        have HV := Lib.hid (parW_zero hlt hc)
        clear hc
        go_wp2_with fail
        go_round
        case rel => exact ⟨y + 1, by omega, by go_num, by rw [HV.out]⟩
        case measure => simp [intOf]; omega
      · obtain ⟨q1, q2⟩ := is49 s[y] hc
        have HV := Lib.hid (parW_one hlt hc)
        clear hc
        go_wp2_with fail
        refine (Tab.withBit _ _ hyb (by omega) _).mono ?_
        rintro e w1 ⟨rfl, rfl⟩
        go_wp2_with fail
        go_round
        case rel => exact ⟨y + 1, by omega, by go_num, by rw [HV.out]⟩
        case measure => simp [intOf]; omega
    · obtain rfl : y = b := by omega
      obtain ⟨q1, q2⟩ := HN.out
      go_wp2_with fail
      exact bodyPost_ret (v := .tuple #[.agg #[.int .i64 0, .int .i64 0], .bool false]) (by simp [results, Tryd.results5, go_sem]) rfl ⟨rfl, (Below.refl _ _).alloc (Nat.le_refl _) _⟩

/-- ParseTable: what both answer, at every string that the law asks of. -/
theorem Par.both (s : ByteArray) (hs : (s.size : Int) ≤ 1048576) : ∃ a b : Int, ∃ c : Bool,
    (∀ w, Calls Tryd.prog 4 #[.string s] w fun e w' => e = .returned (.tuple #[.agg #[.int .i64 a, .int .i64 b], .bool c]) ∧ Below w.heap.size w w') ∧
    (∀ w, Tz64 w → Calls Tryd.prog 5 #[.string s] w fun e w' => e = .returned (.tuple #[.agg #[.int .i64 a, .int .i64 b], .bool c]) ∧ Below w.heap.size w w') := by
  by_cases hz : ∃ m, m ≤ 5 ∧ s.size = 2 ^ m
  · obtain ⟨m, hm, hs2⟩ := hz
    rcases first_bad s s.size (Nat.le_refl _) with hg | ⟨b, hb, _, hg, hn⟩
    · exact ⟨_, _, _, Par.M_good s m hm hs2 hg, Par.I_good s m hm hs2 hg⟩
    · exact ⟨_, _, _, Par.M_bad s m hm hs2 b hb hg hn, Par.I_bad s m hm hs2 b hb hg hn⟩
  · have hz' : ∀ m, m ≤ 5 → s.size ≠ 2 ^ m := fun m hm he => hz ⟨m, hm, he⟩
    exact ⟨_, _, _, Par.M_none s hz' hs, Par.I_none s hz' hs⟩
end Go.Proofs.YtchibahfkcompaaDoor
