/-
  Chapter 6: FormatTerm of the program and of its model.
-/
import Derived.Test.YtphjaggiddjhgaaGreatDoorPlainW
import Derived.Test.YtphjaggiddjhgaaGreatDoorTrmL
import Derived.Test.YtphjaggiddjhgaaGreatDoorShelf
import Derived.Shelf.Strings.Builder1
import Derived.Laws.DeepStrings4
namespace Go.Proofs.YtphjaggiddjhgaaGreatDoor
open Go.RowKit Plain Go.Shelf
set_option linter.unusedVariables false

abbrev IsBld (B b : Nat) (l : List UInt8) (w : World) : Prop := Lib.IsBuilder 79 5 B b (Lib.byteCells l) w

theorem Bld.byte (B b : Nat) (l : List UInt8) (c : UInt8) (z : Int) (hz : z = (c.toNat : Int)) (w : World) (h : IsBld B b l w) (hlen : l.length ≤ 1000) (hBw : B ≤ w.heap.size) :
    Calls Tryz.prog 65 #[.pointer (some ⟨b, 0, none⟩), .int .u8 z] w fun e w' => e = .returned .nilIface ∧ IsBld B b (l ++ [c]) w' ∧ Below B w w' := by
  subst hz
  refine (Any.Builder_WriteByte Tryz.lays167 Tryz.Builder_Extra_167 B b (Lib.byteCells l) (c.toNat : Int) w h (by rw [Lib.byteCells_length]; omega) hBw).mono ?_
  rintro e w' ⟨h1, h2, h3⟩
  refine ⟨h1, ?_, h3⟩
  unfold IsBld
  rw [Lib.byteCells_append]
  exact .inr h2

theorem Bld.text (B b : Nat) (l : List UInt8) (w : World) (h : IsBld B b l w) (hBw : B ≤ w.heap.size) :
    Calls Tryz.prog 66 #[.pointer (some ⟨b, 0, none⟩)] w fun e w' => e = .returned (.string ⟨l.toArray⟩) ∧ Below B w w' :=
  Any.Builder_String_any Tryz.lays169 Tryz.Builder_Extra_169 B b l w h hBw

theorem Trm.fmtI_no (n m v : Int) (hv64 : -9223372036854775808 ≤ v ∧ v ≤ 9223372036854775807) (h : isTm n m v = false) (w : World) :
    Calls Tryz.prog 43 #[.int .i64 n, .agg #[.int .i64 m, .int .i64 v]] w fun e w' => e = .returned (.string ⟨#[]⟩) ∧ Below w.heap.size w w' := by
  have H := Lib.hid h
  have HI := Lib.hid (Trm.isI n m v hv64)
  clear h hv64
  go_enter Tryz.func43, Tryz.ntmps43
  go_wp2_with fail
  refine (HI.out _).mono ?_
  rintro e w1 ⟨rfl, hb1⟩
  rw [H.out]
  go_wp2
  go_ret
  exact ⟨rfl, bB hb1 (by simp) (bA (Nat.le_refl _) (Below.refl _ _))⟩

theorem Trm.fmtI_one (n v : Int) (hv64 : -9223372036854775808 ≤ v ∧ v ≤ 9223372036854775807) (h : isTm n 0 v = true) (w : World) :
    Calls Tryz.prog 43 #[.int .i64 n, .agg #[.int .i64 0, .int .i64 v]] w fun e w' => e = .returned (.string ⟨#[49]⟩) ∧ Below w.heap.size w w' := by
  have H := Lib.hid h
  have HI := Lib.hid (Trm.isI n 0 v hv64)
  clear h hv64
  go_enter Tryz.func43, Tryz.ntmps43
  go_wp2_with fail
  refine (HI.out _).mono ?_
  rintro e w1 ⟨rfl, hb1⟩
  have k0 : w1.cell? ⟨w.heap.size, 0, none⟩ = some (.int .i64 0) := keepB hb1 (keepN rfl rfl)
  rw [H.out]
  go_wp2
  go_ret
  exact ⟨rfl, bB hb1 (by simp) (bA (Nat.le_refl _) (Below.refl _ _))⟩

theorem letter_u8 (k : Nat) (h : k < (⟨#[97, 98, 99, 100, 101]⟩ : ByteArray).size) : (((⟨#[97, 98, 99, 100, 101]⟩ : ByteArray)[k]).toNat : Int) = ((UInt8.ofNat (97 + k)).toNat : Int) := by
  have h5 : k < 5 := h
  rcases cases5 k (by omega) with rfl | rfl | rfl | rfl | rfl | rfl
  all_goals first | rfl | omega

set_option maxRecDepth 100000 in
set_option maxHeartbeats 1000000 in
theorem Trm.fmtI_yes (n m v : Nat) (hn : n ≤ 5) (hm : m < 2 ^ n) (hm0 : m ≠ 0) (hv : v ≤ m) (h : isTm n m v = true) (w : World) :
    Calls Tryz.prog 43 #[.int .i64 n, .agg #[.int .i64 m, .int .i64 v]] w fun e w' => e = .returned (.string ⟨(ltrs m v n).toArray⟩) ∧ Below w.heap.size w w' := by
  have h5 := pow5q hn
  have hm31 : (m : Int) ≤ 31 := by omega
  have hv31 : (v : Int) ≤ 31 := by omega
  have H := Lib.hid h
  have HI := Lib.hid (Trm.isI n m v (by omega))
  have hne : ((m : Int) == 0) = false := by rw [beq_eq_false_iff_ne]; omega
  have hn5 : (n : Int) ≤ 5 := by omega
  clear h hm h5 hn hm0 hv
  go_enter Tryz.func43, Tryz.ntmps43
  go_wp2_with fail
  refine (HI.out _).mono ?_
  rintro e w1 ⟨rfl, hb1⟩
  rw [H.out]
  have k0 : w1.cell? ⟨w.heap.size, 0, none⟩ = some (.int .i64 m) := keepB hb1 (keepN rfl rfl)
  have k1 : w1.cell? ⟨w.heap.size, 1, none⟩ = some (.int .i64 v) := keepB hb1 (keepN rfl rfl)
  have HB1 := Lib.hid (bB hb1 (by simp) (bA (Nat.le_refl _) (Below.refl w.heap.size w)))
  have hz1 : w.heap.size < w1.heap.size := by have := hb1.size; simp at this; omega
  clear hb1
  go_wp2
  obtain ⟨W, hW⟩ : ∃ W, w1.alloc (.cells #[.pointer none, .slice none 0 0] 79) = W := ⟨_, rfl⟩
  have hWs : W.heap.size = w1.heap.size + 1 := by rw [← hW]; simp
  have j0 : W.cell? ⟨w.heap.size, 0, none⟩ = some (.int .i64 m) := hW ▸ keepA k0
  have j1 : W.cell? ⟨w.heap.size, 1, none⟩ = some (.int .i64 v) := hW ▸ keepA k1
  have HBW : Hid (Below w.heap.size w W) := Lib.hid (hW ▸ bA (by omega) HB1.out)
  have HBD : Hid (IsBld w1.heap.size w1.heap.size [] W) := Lib.hid (hW ▸ Lib.fresh_isBuilder _ _ _)
  rw [hW]
  clear k0 k1 hW
  go_loopw [6, 15] (fun _ i wr => ∃ k : Nat, i = .int .i64 (k : Int) ∧ k ≤ n ∧ IsBld w1.heap.size w1.heap.size (ltrs m v k) wr ∧ Below w1.heap.size W wr) (fun _ i _ => 6 - (intOf i).toNat)
  case atStart => exact ⟨0, rfl, by omega, HBD.out, Below.refl _ _⟩
  case round =>
    obtain ⟨k, rfl, hk, hbd, hbel⟩ := hrel
    have HBEL := Lib.hid hbel
    have HBLD := Lib.hid hbd
    have hsz := hbel.size
    have hz : w1.heap.size ≤ wr.heap.size := by omega
    have c0 : wr.cell? ⟨w.heap.size, 0, none⟩ = some (.int .i64 m) := (hbel.cell (p := ⟨w.heap.size, 0, none⟩) (by dsimp only; omega)).trans j0
    have c1 : wr.cell? ⟨w.heap.size, 1, none⟩ = some (.int .i64 v) := (hbel.cell (p := ⟨w.heap.size, 1, none⟩) (by dsimp only; omega)).trans j1
    have hll := ltrs_len m v k
    have HLL : Hid ((ltrs m v k).length ≤ 900) := Lib.hid (by omega)
    clear hbel hbd hll
    by_cases hlt : k < n
    · have hkz : (k : Int) < (n : Int) := by omega
      have hbit := bit_i64 m k (by omega)
      have hbit2 := bit_i64 v k (by omega)
      have hk5 : (k : Int) < 5 := by omega
      rcases bitN_cases m k with hm1 | hm1
      · have HL := Lib.hid (ltrs_no (v := v) hm1)
        rw [hm1] at hbit
        clear hm1
        go_wp2
        go_roundw
        case rel => exact ⟨k + 1, by go_num, by omega, by rw [HL.out]; exact HBLD.out, HBEL.out⟩
        case measure => simp [intOf] <;> omega
      · rcases bitN_cases v k with hv1 | hv1
        · have HL := Lib.hid (ltrs_neg hm1 hv1)
          rw [hm1] at hbit
          rw [hv1] at hbit2
          clear hm1 hv1
          go_wp2_with fail
          refine (Bld.byte _ _ _ 33 _ rfl _ HBLD.out (by have := HLL.out; omega) hz).mono ?_
          rintro e w2 ⟨rfl, hbd2, hb2⟩
          have HB2 := Lib.hid (HBEL.out.trans hb2)
          have hz2 : w1.heap.size ≤ w2.heap.size := by have := hb2.size; omega
          have HBLD2 := Lib.hid hbd2
          clear hb2 hbd2
          go_wp2_with fail
          refine (Bld.byte _ _ _ (UInt8.ofNat (97 + k)) _ (letter_u8 k _) _ HBLD2.out (by have := HLL.out; simp; omega) hz2).mono ?_
          rintro e w3 ⟨rfl, hbd3, hb3⟩
          have HB3 := Lib.hid (HB2.out.trans hb3)
          have HBLD3 := Lib.hid hbd3
          clear hb3 hbd3
          go_wp2
          go_roundw
          case rel => exact ⟨k + 1, by go_num, by omega, by rw [HL.out]; exact HBLD3.out, HB3.out⟩
          case measure => simp [intOf] <;> omega
        · have HL := Lib.hid (ltrs_pos hm1 hv1)
          rw [hm1] at hbit
          rw [hv1] at hbit2
          clear hm1 hv1
          go_wp2_with fail
          refine (Bld.byte _ _ _ (UInt8.ofNat (97 + k)) _ (letter_u8 k _) _ HBLD.out (by have := HLL.out; omega) hz).mono ?_
          rintro e w3 ⟨rfl, hbd3, hb3⟩
          have HB3 := Lib.hid (HBEL.out.trans hb3)
          have HBLD3 := Lib.hid hbd3
          clear hb3 hbd3
          go_wp2
          go_roundw
          case rel => exact ⟨k + 1, by go_num, by omega, by rw [HL.out]; exact HBLD3.out, HB3.out⟩
          case measure => simp [intOf] <;> omega
    · obtain rfl : k = n := by omega
      clear hlt
      go_wp2_with fail
      refine (Bld.text _ _ _ _ HBLD.out hz).mono ?_
      rintro e w3 ⟨rfl, hb3⟩
      go_wp2
      go_ret
      exact ⟨rfl, HBW.out.trans ((HBEL.out.trans hb3).mono (by omega))⟩

/-- FormatTerm of the program. -/
theorem Trm.fmtI (n m v : Int) (hv64 : -9223372036854775808 ≤ v ∧ v ≤ 9223372036854775807) (w : World) :
    Calls Tryz.prog 43 #[.int .i64 n, .agg #[.int .i64 m, .int .i64 v]] w fun e w' => e = .returned (.string ⟨(fmtTm n m v).toArray⟩) ∧ Below w.heap.size w w' := by
  cases h : isTm n m v with
  | false => rw [fmtTm_no h]; exact Trm.fmtI_no n m v hv64 h w
  | true =>
    obtain ⟨a, b, c, rfl, rfl, rfl, ha, hb, hc⟩ := isTm_nat h
    rw [fmtTm_yes h]
    unfold tmTxt
    split
    · rename_i h0
      subst h0
      exact Trm.fmtI_one a c hv64 h w
    · rename_i h0
      exact Trm.fmtI_yes a b c ha hb h0 (tm_le ha hb hc).2 h w

/-! The model's. -/
theorem slice_letter (k : Nat) (h : k < 5) (w : World) :
    (Instr.slice 9 (.string ⟨#[97, 98, 99, 100, 101]⟩) (some (.int .i64 (k : Int))) (some (.int .i64 ((k : Int) + 1))) none).run Tryz.prog w = .ok (.string ⟨#[UInt8.ofNat (97 + k)]⟩) w := by
  have hs : ((⟨#[97, 98, 99, 100, 101]⟩ : ByteArray).size : Int) = 5 := rfl
  rw [run_slice_string_if (h := Tryz.underlying9), if_pos (by omega), if_pos (by omega)]
  rcases cases5 k (by omega) with rfl | rfl | rfl | rfl | rfl | rfl
  all_goals first | rfl | omega

theorem Trm.fmtM_no (n m v : Int) (h : isTm n m v = false) (w : World) :
    Calls Tryz.prog 50 #[.int .i64 n, .agg #[.int .i64 m, .int .i64 v]] w fun e w' => e = .returned (.string ⟨#[]⟩) ∧ Below w.heap.size w w' := by
  have H := Lib.hid h
  clear h
  go_enter Tryz.func50, Tryz.ntmps50
  go_wp2
  refine wp_loop_rounds 1 ?_
  rw [rounds_succ]
  go_wp2_with fail
  refine (Trm.isM _ _ _ _).mono ?_
  rintro e w1 ⟨rfl, hb1⟩
  rw [H.out]
  have k0 : w1.cell? ⟨w.heap.size, 0, none⟩ = some (.int .i64 m) := keepB hb1 (keepN rfl rfl)
  have k1 : w1.cell? ⟨w.heap.size, 1, none⟩ = some (.int .i64 v) := keepB hb1 (keepN rfl rfl)
  have HB1 := Lib.hid (bB hb1 (by simp) (bA (Nat.le_refl _) (Below.refl w.heap.size w)))
  have hz1 : w.heap.size < w1.heap.size := by have := hb1.size; simp at this; omega
  clear hb1
  go_wp2_with fail
  refine (Trm.isM _ _ _ _).mono ?_
  rintro e w2 ⟨rfl, hb2⟩
  rw [H.out]
  go_wp2
  go_ret
  exact ⟨rfl, bB hb2 (by omega) HB1.out⟩

set_option maxRecDepth 100000 in
set_option maxHeartbeats 1000000 in
theorem Trm.fmtM_yes (n m v : Nat) (hn : n ≤ 5) (hm : m < 2 ^ n) (hv : v ≤ m) (h : isTm n m v = true) (w : World) :
    Calls Tryz.prog 50 #[.int .i64 n, .agg #[.int .i64 m, .int .i64 v]] w fun e w' => e = .returned (.string ⟨(tmTxt n m v).toArray⟩) ∧ Below w.heap.size w w' := by
  have h5 := pow5q hn
  have hm31 : (m : Int) ≤ 31 := by omega
  have hv31 : (v : Int) ≤ 31 := by omega
  have H := Lib.hid h
  have HNIL := Lib.hid (ltrs_nil n (by omega) m (by omega) hm v (by omega))
  have hn5 : (n : Int) ≤ 5 := by omega
  clear h hm h5 hn hv
  go_enter Tryz.func50, Tryz.ntmps50
  go_wp2
  obtain ⟨W, hW⟩ : ∃ W, w.alloc (.cells #[.int .i64 m, .int .i64 v] 56) = W := ⟨_, rfl⟩
  have hWs : W.heap.size = w.heap.size + 1 := by rw [← hW]; simp
  have j0 : W.cell? ⟨w.heap.size, 0, none⟩ = some (.int .i64 m) := hW ▸ keepN rfl rfl
  have j1 : W.cell? ⟨w.heap.size, 1, none⟩ = some (.int .i64 v) := hW ▸ keepN rfl rfl
  have HBW : Hid (Below w.heap.size w W) := Lib.hid (hW ▸ bA (Nat.le_refl _) (Below.refl _ _))
  rw [hW]
  clear hW
  go_loopw [5, 6] (fun s i wr => ∃ k : Nat, i = .int .i64 (k : Int) ∧ k ≤ n ∧ s = .string ⟨(ltrs m v k).toArray⟩ ∧ Below W.heap.size W wr) (fun _ i _ => 6 - (intOf i).toNat)
  case atStart => exact ⟨0, rfl, by omega, rfl, Below.refl _ _⟩
  case round =>
    obtain ⟨k, rfl, hk, rfl, hbel⟩ := hrel
    have hsz := hbel.size
    have c0 : wr.cell? ⟨w.heap.size, 0, none⟩ = some (.int .i64 m) := keepB hbel j0
    have c1 : wr.cell? ⟨w.heap.size, 1, none⟩ = some (.int .i64 v) := keepB hbel j1
    have hz : w.heap.size < wr.heap.size := by omega
    have hll := ltrs_len m v k
    have hlz : ((ltrs m v k).length : Int) ≤ 10 := by omega
    have HBEL := Lib.hid hbel
    clear hbel hll
    by_cases hlt : k < n
    · have hkz : (k : Int) < (n : Int) := by omega
      have hbit := bit_i64 m k (by omega)
      have hbit2 := bit_i64 v k (by omega)
      have hk5 : (k : Int) < 5 := by omega
      have hsl := slice_letter k (by omega)
      rcases bitN_cases m k with hm1 | hm1
      · have HL := Lib.hid (ltrs_no (v := v) hm1)
        rw [hm1] at hbit
        clear hm1
        go_wp2_with fail
        refine (Trm.isM _ _ _ _).mono ?_
        rintro e w2 ⟨rfl, hb2⟩
        rw [H.out]
        have d0 := keepB hb2 c0
        have d1 := keepB hb2 c1
        have HB2 := Lib.hid (bB hb2 hsz HBEL.out)
        clear hb2
        go_wp2
        go_roundw
        case rel => exact ⟨k + 1, by go_num, by omega, by rw [HL.out], HB2.out⟩
        case measure => simp [intOf] <;> omega
      · rcases bitN_cases v k with hv1 | hv1
        · have HL := Lib.hid (ltrs_neg hm1 hv1)
          rw [hm1] at hbit
          rw [hv1] at hbit2
          clear hm1 hv1
          go_wp2_with fail
          refine (Trm.isM _ _ _ _).mono ?_
          rintro e w2 ⟨rfl, hb2⟩
          rw [H.out]
          have d0 := keepB hb2 c0
          have d1 := keepB hb2 c1
          have HB2 := Lib.hid (bB hb2 hsz HBEL.out)
          clear hb2
          go_wp2
          go_roundw
          case rel => exact ⟨k + 1, by go_num, by omega, by rw [HL.out]; simp [ByteArray.mk_append_mk], HB2.out⟩
          case measure => simp [intOf] <;> omega
        · have HL := Lib.hid (ltrs_pos hm1 hv1)
          rw [hm1] at hbit
          rw [hv1] at hbit2
          clear hm1 hv1
          go_wp2_with fail
          refine (Trm.isM _ _ _ _).mono ?_
          rintro e w2 ⟨rfl, hb2⟩
          rw [H.out]
          have d0 := keepB hb2 c0
          have d1 := keepB hb2 c1
          have HB2 := Lib.hid (bB hb2 hsz HBEL.out)
          clear hb2
          go_wp2
          go_roundw
          case rel => exact ⟨k + 1, by go_num, by omega, by rw [HL.out]; simp [ByteArray.mk_append_mk], HB2.out⟩
          case measure => simp [intOf] <;> omega
    · obtain rfl : k = n := by omega
      clear hlt
      by_cases hm0 : m = 0
      · have he := HNIL.out.2 hm0
        have HT : Hid (tmTxt k m v = [49]) := Lib.hid (if_pos hm0)
        rw [he] at hlz ⊢
        clear hm0 he
        go_wp2_with fail
        refine (Trm.isM _ _ _ _).mono ?_
        rintro e w2 ⟨rfl, hb2⟩
        rw [H.out]
        have d0 := keepB hb2 c0
        have d1 := keepB hb2 c1
        have HB2 := Lib.hid (bB hb2 hsz HBEL.out)
        have hz2 := hb2.size
        clear hb2
        go_wp2_with fail
        refine (Trm.isM _ _ _ _).mono ?_
        rintro e w3 ⟨rfl, hb3⟩
        rw [H.out]
        go_wp2
        go_ret
        rw [HT.out]
        exact ⟨rfl, HBW.out.trans ((bB hb3 (by omega) HB2.out).mono (by omega))⟩
      · have HT : Hid (tmTxt k m v = ltrs m v k) := Lib.hid (if_neg hm0)
        have he : ((⟨(ltrs m v k).toArray⟩ : ByteArray).toList == []) = false := by
          rw [ByteArray.toList_eq, beq_eq_false_iff_ne]
          intro e
          exact hm0 (HNIL.out.1 (by simpa using e))
        have he2 : ((⟨(ltrs m v k).toArray⟩ : ByteArray).toList == (⟨#[]⟩ : ByteArray).toList) = false := by
          rw [ByteArray.toList_eq, ByteArray.toList_eq, beq_eq_false_iff_ne]
          intro e
          exact hm0 (HNIL.out.1 (by simpa using e))
        obtain ⟨t, ht⟩ : ∃ t : ByteArray, (⟨(ltrs m v k).toArray⟩ : ByteArray) = t := ⟨_, rfl⟩
        have HTT : Hid ((⟨(tmTxt k m v).toArray⟩ : ByteArray) = t) := Lib.hid (by rw [HT.out, ht])
        rw [ht] at he he2 ⊢
        clear HNIL HT hm0 ht
        go_wp2_with fail
        refine (Trm.isM _ _ _ _).mono ?_
        rintro e w2 ⟨rfl, hb2⟩
        rw [H.out]
        have HB2 := Lib.hid (bB hb2 hsz HBEL.out)
        clear hb2
        go_wp2
        go_ret
        rw [HTT.out]
        exact ⟨rfl, HBW.out.trans (HB2.out.mono (by omega))⟩

/-- FormatTerm of the model. -/
theorem Trm.fmtM (n m v : Int) (w : World) :
    Calls Tryz.prog 50 #[.int .i64 n, .agg #[.int .i64 m, .int .i64 v]] w fun e w' => e = .returned (.string ⟨(fmtTm n m v).toArray⟩) ∧ Below w.heap.size w w' := by
  cases h : isTm n m v with
  | false => rw [fmtTm_no h]; exact Trm.fmtM_no n m v h w
  | true =>
    obtain ⟨a, b, c, rfl, rfl, rfl, ha, hb, hc⟩ := isTm_nat h
    rw [fmtTm_yes h]
    exact Trm.fmtM_yes a b c ha hb (tm_le ha hb hc).2 h w

end Go.Proofs.YtphjaggiddjhgaaGreatDoor
