/-
  FormatTable of the program and of its model: both write the values of all inputs.
-/
import Derived.Test.YtchibahfkcompaaTabE
namespace Go.Proofs.Ytchibahfkcompaa
open Go.RowKit Plain
set_option linter.unusedVariables false

/-- The digits of the values at the first inputs. -/
def Plain.digs (a : Nat) : Nat → List UInt8
  | 0 => []
  | x + 1 => digs a x ++ [UInt8.ofNat (48 + bitN a x)]
theorem digs_len (a x : Nat) : (digs a x).length = x := by
  induction x with
  | zero => rfl
  | succ x ih => simp [digs, ih]

theorem Tab.fmtM_no (n a : Int) (ht : isT n a = false) (w : World) :
    Calls Try.prog 31 #[.agg #[.int .i64 n, .int .i64 a]] w fun e w' => e = .returned (.string ⟨#[]⟩) ∧ Below w.heap.size w w' := by
  have H := Lib.hid ht
  clear ht
  go_enter Try.func31, Try.ntmps31
  go_wp2
  refine wp_loop_rounds 1 ?_
  rw [rounds_succ]
  go_wp2_with fail
  refine (Tab.model _ _ _).mono ?_
  rintro e w1 ⟨rfl, hb1⟩
  rw [H.out]
  go_wp2
  go_ret
  exact ⟨rfl, ((Below.refl _ _).alloc (Nat.le_refl _) _).trans (hb1.mono (by simp))⟩

set_option maxRecDepth 100000 in
theorem Tab.fmtM_yes (n a : Nat) (hn : n ≤ 5) (ha : a ≤ fullN n) (w : World) :
    Calls Try.prog 31 #[.agg #[.int .i64 n, .int .i64 a]] w fun e w' => e = .returned (.string ⟨(digs a (2 ^ n)).toArray⟩) ∧ Below w.heap.size w w' := by
  have ht := Lib.hid (isT_yes hn ha)
  have hf := fullN_le n hn
  have hl : (a : Int) ≤ 4294967295 := by omega
  obtain ⟨hp1, hp2⟩ := two_pow_int n hn
  clear ha hf
  go_enter Try.func31, Try.ntmps31
  go_wp2
  go_loopw [3, 4] (fun s x wr => ∃ y : Nat, x = .int .i64 (y : Int) ∧ s = .string ⟨(digs a y).toArray⟩ ∧ (y : Int) ≤ 2 ^ n ∧ Below (w.heap.size + 1) (w.alloc (.cells #[.int .i64 n, .int .i64 a] 25)) wr) (fun _ x _ => 33 - (intOf x).toNat)
  case atStart => exact ⟨0, rfl, rfl, by omega, Below.refl _ _⟩
  case round =>
    obtain ⟨y, rfl, rfl, hy, hb⟩ := hrel
    have k0 : wr.cell? ⟨w.heap.size, 0, none⟩ = some (.int .i64 n) := (hb.cell (by dsimp only; omega)).trans (keepN rfl rfl)
    have k1 : wr.cell? ⟨w.heap.size, 1, none⟩ = some (.int .i64 a) := (hb.cell (by dsimp only; omega)).trans (keepN rfl rfl)
    have hz : w.heap.size < wr.heap.size := by have := hb.size; simp at this; omega
    by_cases hlt : (y : Int) < 2 ^ n
    · have hbit := bit_i64 a y (by omega)
      rcases bitN_cases a y with hv | hv
      · have hd : digs a (y + 1) = digs a y ++ [48] := by show digs a y ++ [_] = _; rw [hv]; rfl
        have HD := Lib.hid hd
        rw [hv] at hbit
        clear hv hd
        go_wp2_with fail
        refine (Tab.model _ _ _).mono ?_
        rintro e w1 ⟨rfl, hb1⟩
        rw [ht.out]
        obtain ⟨hc1, hf1⟩ := bcell hb1
        have hbb := bB hb1 (by omega) hb
        have hlen := digs_len a y
        go_wp2_with fail
        go_roundw
        case rel => exact ⟨y + 1, by go_num, by rw [HD.out, ByteArray.mk_append_mk], by omega, hbb⟩
        case measure => simp [intOf]; omega
      · have hd : digs a (y + 1) = digs a y ++ [49] := by show digs a y ++ [_] = _; rw [hv]; rfl
        have HD := Lib.hid hd
        rw [hv] at hbit
        clear hv hd
        go_wp2_with fail
        refine (Tab.model _ _ _).mono ?_
        rintro e w1 ⟨rfl, hb1⟩
        rw [ht.out]
        obtain ⟨hc1, hf1⟩ := bcell hb1
        have hbb := bB hb1 (by omega) hb
        have hlen := digs_len a y
        go_wp2_with fail
        go_roundw
        case rel => exact ⟨y + 1, by go_num, by rw [HD.out, ByteArray.mk_append_mk], by omega, hbb⟩
        case measure => simp [intOf]; omega
    · have he : y = 2 ^ n := by
        have e2 : ((2 : Int) ^ n) = ((2 ^ n : Nat) : Int) := (Int.natCast_pow 2 n).symm
        rw [e2] at hy hlt; omega
      have HE : Hid (digs a y = digs a (2 ^ n)) := Lib.hid (by rw [he])
      clear he
      go_wp2_with fail
      refine (Tab.model _ _ _).mono ?_
      rintro e w1 ⟨rfl, hb1⟩
      rw [ht.out]
      obtain ⟨hc1, hf1⟩ := bcell hb1
      have hbb := bB hb1 (by omega) hb
      go_wp2_with fail
      go_ret
      exact ⟨ret_string HE.out, ((Below.refl _ _).alloc (Nat.le_refl _) _).trans (hbb.mono (by omega))⟩

/-- What FormatTable answers. -/
def Plain.fmtT (n a : Int) : List UInt8 := if isT n a = true then digs a.toNat (2 ^ n.toNat) else []
theorem fmtT_yes (n a : Nat) (hn : n ≤ 5) (ha : a ≤ fullN n) : fmtT n a = digs a (2 ^ n) := by unfold fmtT; rw [if_pos (isT_yes hn ha)]; rfl
theorem fmtT_no {n a : Int} (h : isT n a = false) : fmtT n a = [] := by unfold fmtT; rw [if_neg (by rw [h]; decide)]

theorem Tab.fmtM (n a : Int) (w : World) :
    Calls Try.prog 31 #[.agg #[.int .i64 n, .int .i64 a]] w fun e w' => e = .returned (.string ⟨(fmtT n a).toArray⟩) ∧ Below w.heap.size w w' := by
  by_cases ht : isT n a = true
  · obtain ⟨m, b, rfl, rfl, hm, hb⟩ := isT_nat ht
    rw [fmtT_yes m b hm hb]
    exact Tab.fmtM_yes m b hm hb w
  · rw [fmtT_no (by simpa using ht)]
    exact Tab.fmtM_no n a (by simpa using ht) w

theorem Tab.fmtI_no (n a : Int) (hb : -9223372036854775808 ≤ a ∧ a ≤ 9223372036854775807) (ht : isT n a = false) (w : World) :
    Calls Try.prog 32 #[.agg #[.int .i64 n, .int .i64 a]] w fun e w' => e = .returned (.string ⟨#[]⟩) ∧ Below w.heap.size w w' := by
  have H := Lib.hid ht
  have HB := Lib.hid hb
  clear ht hb
  go_enter Try.func32, Try.ntmps32
  go_wp2_with fail
  refine (Tab.impl _ _ HB.out _).mono ?_
  rintro e w1 ⟨rfl, hb1⟩
  rw [H.out]
  go_wp2
  go_ret
  exact ⟨rfl, ((Below.refl _ _).alloc (Nat.le_refl _) _).trans (hb1.mono (by simp))⟩

theorem digs_set (a y t : Nat) : (digs a y ++ List.replicate (t + 1) (0 : UInt8)).set y (UInt8.ofNat (48 + bitN a y)) = digs a (y + 1) ++ List.replicate t 0 := by
  rw [List.set_append, if_neg (by rw [digs_len]; omega), digs_len, Nat.sub_self, List.replicate_succ, List.set_cons_zero]
  show _ = (digs a y ++ [UInt8.ofNat (48 + bitN a y)]) ++ List.replicate t 0
  simp

set_option maxRecDepth 100000 in
set_option maxHeartbeats 1000000 in
theorem Tab.fmtI_yes (n a : Nat) (hn : n ≤ 5) (ha : a ≤ fullN n) (w : World) :
    Calls Try.prog 32 #[.agg #[.int .i64 n, .int .i64 a]] w fun e w' => e = .returned (.string ⟨(digs a (2 ^ n)).toArray⟩) ∧ Below w.heap.size w w' := by
  have ht := Lib.hid (isT_yes hn ha)
  have hf := fullN_le n hn
  have hl : (a : Int) ≤ 4294967295 := by omega
  have h32 := two_pow_le n hn
  have hp1 : 1 ≤ 2 ^ n := Nat.one_le_two_pow
  clear ha hf
  obtain ⟨L, hL⟩ : ∃ L : Nat, L = 2 ^ n := ⟨_, rfl⟩
  have HL := Lib.hid hL
  rw [← hL] at h32 hp1 ⊢
  clear hL
  obtain ⟨i0, hi, hz0, hz1, hz2⟩ := info_parts Try.infoByte
  go_enter Try.func32, Try.ntmps32
  go_wp2_with fail
  refine (Tab.impl _ _ (by omega) _).mono ?_
  rintro e w1 ⟨rfl, hb1⟩
  obtain ⟨hc1, hf1⟩ := bcell hb1
  have hz : w.heap.size < w1.heap.size := by have := hb1.size; simp at this; omega
  rw [ht.out]
  go_wp2_with fail
  refine (Tab.count n hn _).mono ?_
  rintro e w2 ⟨rfl, rfl⟩
  rw [← HL.out]
  go_wp2_with (at_make; go_must (refine wpList_make_full _ rfl _ _ 49 rfl w1.heap.size 5 i0 (.int .u8 0) 1 Try.underlying49 hi hz0 hz1 _ _ _ _ L rfl rfl rfl rfl (by rw [hz2]; omega) (by unfold maxLen; omega) (Nat.le_refl _) ?_; intro w3 hown hgrow))
  have hrow := ByteRow.made hown
  have hbw : Below w1.heap.size w1 w3 := (Below.refl _ _).grown hgrow (Nat.le_refl _) (fun _ h => by cases h)
  clear hown hgrow hi hz0 hz1 hz2 hc1 hf1
  have HB := Lib.hid hb1
  clear hb1
  go_loopw [4, 14] (fun _ x wr => ∃ y t : Nat, y + t = L ∧ x = .int .i64 (y : Int) ∧ ByteRow wr w1.heap.size (.slice (some ⟨w1.heap.size, 0, none⟩) L L) (digs a y ++ List.replicate t 0) ∧ Below w1.heap.size w1 wr) (fun _ x _ => 33 - (intOf x).toNat)
  case atStart => exact ⟨0, L, by omega, rfl, by simpa [digs] using hrow, hbw⟩
  case round =>
    obtain ⟨y, t, hyt, rfl, hrow, hb⟩ := hrel
    match t, hyt with
    | 0, hyt =>
      obtain rfl : y = L := by omega
      have gt := hrow.text
      simp only [List.replicate_zero, List.append_nil] at gt
      go_wp2
      go_ret
      exact ⟨rfl, ((Below.refl _ _).alloc (Nat.le_refl _) _).trans ((HB.out.mono (by simp)).trans (hb.mono (by omega)))⟩
    | t + 1, hyt =>
      have hlen : (digs a y ++ List.replicate (t + 1) (0 : UInt8)).length = L := by simp [digs_len]; omega
      have hcell := hrow.cell hlen y (by omega)
      have hfree := hrow.free hlen y
      have hv := bitN_lt a y
      have hst := hrow.store hlen y (UInt8.ofNat (48 + bitN a y)) (48 + (bitN a y : Int)) (by rw [u8_of _ (by omega)]; omega)
      rw [digs_set] at hst
      have k0 : wr.cell? ⟨w.heap.size, 0, none⟩ = some (.int .i64 n) := (hb.cell (by dsimp only; omega)).trans ((HB.out.cell (by simp)).trans (keepN rfl rfl))
      have k1 : wr.cell? ⟨w.heap.size, 1, none⟩ = some (.int .i64 a) := (hb.cell (by dsimp only; omega)).trans ((HB.out.cell (by simp)).trans (keepN rfl rfl))
      clear hlen
      go_wp2_with fail
      refine (Tab.at _ _ (by omega) (by omega) _).mono ?_
      rintro e w2 ⟨rfl, rfl⟩
      go_wp2_with fail
      go_roundw
      case rel => exact ⟨y + 1, t, by omega, by go_num, hst.1, hb.setCell (Nat.le_refl _) _⟩
      case measure => simp [intOf]; omega

/-- FormatTable of the program. -/
theorem Tab.fmtI (n a : Int) (hb : -9223372036854775808 ≤ a ∧ a ≤ 9223372036854775807) (w : World) :
    Calls Try.prog 32 #[.agg #[.int .i64 n, .int .i64 a]] w fun e w' => e = .returned (.string ⟨(fmtT n a).toArray⟩) ∧ Below w.heap.size w w' := by
  by_cases ht : isT n a = true
  · obtain ⟨m, b, rfl, rfl, hm, hb⟩ := isT_nat ht
    rw [fmtT_yes m b hm hb]
    exact Tab.fmtI_yes m b hm hb w
  · rw [fmtT_no (by simpa using ht)]
    exact Tab.fmtI_no n a hb (by simpa using ht) w
end Go.Proofs.Ytchibahfkcompaa
