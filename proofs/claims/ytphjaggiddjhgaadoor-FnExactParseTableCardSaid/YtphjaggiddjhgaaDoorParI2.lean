/-
  ParseTable of the program; both answer 'Plain.parT'.
-/
import Derived.Test.YtphjaggiddjhgaaDoorBoL
namespace Go.Proofs.YtphjaggiddjhgaaDoor
open Go.RowKit Plain
set_option linter.unusedVariables false

set_option maxRecDepth 100000 in
theorem Par.I_none (s : ByteArray) (hz : ∀ m, m ≤ 5 → s.size ≠ 2 ^ m) (hs : (s.size : Int) ≤ 1048576) (w : World) (hT : Tz64 w) :
    Calls Tryd.prog 7 #[.string s] w fun e w' => e = .returned (.tuple #[.agg #[.int .i64 0, .int .i64 0], .bool false]) ∧ Below w.heap.size w w' := by
  have HT : Hid (Tz64 (w.alloc (.cells #[.int .i64 0, .int .i64 0] 23))) := Lib.hid (hT.stays ((Below.refl _ _).alloc (Nat.le_refl _) _) (Nat.le_refl _))
  have HB := Lib.hid (BoL.no s.size hz (by omega))
  clear hz hT
  go_enter Tryd.func7, Tryd.ntmps7
  go_wp2_with fail
  refine (HB.out _ HT.out).mono ?_
  rintro e w1 ⟨rfl, rfl⟩
  go_wp2
  exact bodyPost_ret (v := .tuple #[.agg #[.int .i64 0, .int .i64 0], .bool false]) (by simp [results, Tryd.results7, go_sem]) rfl ⟨rfl, (Below.refl _ _).alloc (Nat.le_refl _) _⟩

set_option maxRecDepth 100000 in
set_option maxHeartbeats 1000000 in
theorem Par.I_good (s : ByteArray) (m : Nat) (hm : m ≤ 5) (hs : s.size = 2 ^ m) (hg : Digs01 s s.size) (w : World) (hT : Tz64 w) :
    Calls Tryd.prog 7 #[.string s] w fun e w' => e = .returned (.tuple #[.agg #[.int .i64 m, .int .i64 (parW s s.size : Int)], .bool true]) ∧ Below w.heap.size w w' := by
  have h32 : (s.size : Int) ≤ 32 := by have := two_pow_le m hm; omega
  have hpb := parW_bound s s.size (by omega)
  have HG := Lib.hid hg
  have HT : Hid (Tz64 (w.alloc (.cells #[.int .i64 0, .int .i64 0] 23))) := Lib.hid (hT.stays ((Below.refl _ _).alloc (Nat.le_refl _) _) (Nat.le_refl _))
  have HB := Lib.hid (BoL.yes s.size m hm hs)
  clear hg hT hs
  go_enter Tryd.func7, Tryd.ntmps7
  go_wp2_with fail
  refine (HB.out _ HT.out).mono ?_
  rintro e w1 ⟨rfl, rfl⟩
  go_wp2_with fail
  go_loop [6, 7, 19] (fun a _ x => ∃ y : Nat, y ≤ s.size ∧ x = .int .i64 (y : Int) ∧ a = .int .u64 (parW s y : Int)) (fun _ _ x => 33 - (intOf x).toNat)
  case atStart => exact ⟨0, Nat.zero_le _, rfl, rfl⟩
  case round =>
    obtain ⟨y, hy, rfl, rfl⟩ := hrel
    by_cases hlt : y < s.size
    · have hyb := parW_bound s y (by omega)
      rcases HG.out y hlt (by omega) with hc | hc
      · obtain ⟨q1, q2⟩ := is48 s[y] hc
        have HV := Lib.hid (parW_zero hlt hc)
        clear hc
        go_wp2_with fail
        go_round
        case rel => exact ⟨y + 1, by omega, by go_num, by rw [HV.out]⟩
        case measure => simp [intOf]; omega
      · obtain ⟨q1, q2⟩ := is49 s[y] hc
        have HV := Lib.hid (parW_one hlt hc)
        clear hc
        go_wp2_with fail
        refine (Tab.withBit _ _ hyb (by omega) _).mono ?_
        rintro e w1 ⟨rfl, rfl⟩
        go_wp2_with fail
        go_round
        case rel => exact ⟨y + 1, by omega, by go_num, by rw [HV.out]⟩
        case measure => simp [intOf]; omega
    · obtain rfl : y = s.size := by omega
      go_wp2_with fail
      refine (Tab.tableX' m _ (by omega) _).mono ?_
      rintro e w1 ⟨rfl, rfl⟩
      go_wp2
      exact bodyPost_ret (v := .tuple #[.agg #[.int .i64 m, .int .i64 (parW s s.size : Int)], .bool true]) (by simp [results, Tryd.results7, go_sem]) rfl ⟨rfl, ((Below.refl _ _).alloc (Nat.le_refl _) _).alloc (by simp) _⟩
set_option maxRecDepth 100000 in
set_option maxHeartbeats 1000000 in
theorem Par.I_bad (s : ByteArray) (m : Nat) (hm : m ≤ 5) (hs : s.size = 2 ^ m) (b : Nat) (hb : b < s.size) (hg : Digs01 s b) (hn : ¬ (s[b] = 48 ∨ s[b] = 49)) (w : World) (hT : Tz64 w) :
    Calls Tryd.prog 7 #[.string s] w fun e w' => e = .returned (.tuple #[.agg #[.int .i64 0, .int .i64 0], .bool false]) ∧ Below w.heap.size w w' := by
  have h32 : (s.size : Int) ≤ 32 := by have := two_pow_le m hm; omega
  have hpb := parW_bound s s.size (by omega)
  have HG := Lib.hid hg
  have HN := Lib.hid (isNot _ hn)
  have HT : Hid (Tz64 (w.alloc (.cells #[.int .i64 0, .int .i64 0] 23))) := Lib.hid (hT.stays ((Below.refl _ _).alloc (Nat.le_refl _) _) (Nat.le_refl _))
  have HB := Lib.hid (BoL.yes s.size m hm hs)
  clear hg hT hs hn
  go_enter Tryd.func7, Tryd.ntmps7
  go_wp2_with fail
  refine (HB.out _ HT.out).mono ?_
  rintro e w1 ⟨rfl, rfl⟩
  go_wp2_with fail
  go_loop [6, 7, 19] (fun a _ x => ∃ y : Nat, y ≤ b ∧ x = .int .i64 (y : Int) ∧ a = .int .u64 (parW s y : Int)) (fun _ _ x => 33 - (intOf x).toNat)
  case atStart => exact ⟨0, Nat.zero_le _, rfl, rfl⟩
  case round =>
    obtain ⟨y, hy, rfl, rfl⟩ := hrel
    by_cases hltb : y < b
    · have hlt : y < s.size := by omega
      have hyb := parW_bound s y (by omega)
      rcases HG.out y hlt (by omega) with hc | hc
      · obtain ⟨q1, q2⟩ := is48 s[y] hc
        have HV := Lib.hid (parW_zero hlt hc)
        clear hc
        go_wp2_with fail
        go_round
        case rel => exact ⟨y + 1, by omega, by go_num, by rw [HV.out]⟩
        case measure => simp [intOf]; omega
      · obtain ⟨q1, q2⟩ := is49 s[y] hc
        have HV := Lib.hid (parW_one hlt hc)
        clear hc
        go_wp2_with fail
        refine (Tab.withBit _ _ hyb (by omega) _).mono ?_
        rintro e w1 ⟨rfl, rfl⟩
        go_wp2_with fail
        go_round
        case rel => exact ⟨y + 1, by omega, by go_num, by rw [HV.out]⟩
        case measure => simp [intOf]; omega
    · obtain rfl : y = b := by omega
      obtain ⟨q1, q2⟩ := HN.out
      go_wp2_with fail
      exact bodyPost_ret (v := .tuple #[.agg #[.int .i64 0, .int .i64 0], .bool false]) (by simp [results, Tryd.results7, go_sem]) rfl ⟨rfl, (Below.refl _ _).alloc (Nat.le_refl _) _⟩

/-- ParseTable: what both answer, at every string that the law asks of. -/
theorem Par.both (s : ByteArray) (hs : (s.size : Int) ≤ 1048576) : ∃ a b : Int, ∃ c : Bool,
    (∀ w, Calls Tryd.prog 6 #[.string s] w fun e w' => e = .returned (.tuple #[.agg #[.int .i64 a, .int .i64 b], .bool c]) ∧ Below w.heap.size w w') ∧
    (∀ w, Tz64 w → Calls Tryd.prog 7 #[.string s] w fun e w' => e = .returned (.tuple #[.agg #[.int .i64 a, .int .i64 b], .bool c]) ∧ Below w.heap.size w w') := by
  by_cases hz : ∃ m, m ≤ 5 ∧ s.size = 2 ^ m
  · obtain ⟨m, hm, hs2⟩ := hz
    rcases first_bad s s.size (Nat.le_refl _) with hg | ⟨b, hb, _, hg, hn⟩
    · exact ⟨_, _, _, Par.M_good s m hm hs2 hg, Par.I_good s m hm hs2 hg⟩
    · exact ⟨_, _, _, Par.M_bad s m hm hs2 b hb hg hn, Par.I_bad s m hm hs2 b hb hg hn⟩
  · have hz' : ∀ m, m ≤ 5 → s.size ≠ 2 ^ m := fun m hm he => hz ⟨m, hm, he⟩
    exact ⟨_, _, _, Par.M_none s hz' hs, Par.I_none s hz' hs⟩
end Go.Proofs.YtphjaggiddjhgaaDoor
