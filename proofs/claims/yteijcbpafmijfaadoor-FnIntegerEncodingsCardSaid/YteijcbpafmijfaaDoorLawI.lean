/-
  The law of the integer encodings, walked from the contracts of what it calls.
-/
import Derived.Test.YteijcbpafmijfaaDoorDrawB
import Derived.Test.YteijcbpafmijfaaDoorPlainE
import Derived.Test.YteijcbpafmijfaaDoorParI
import Derived.Test.YteijcbpafmijfaaDoorEncVI
import Derived.Test.YteijcbpafmijfaaDoorDecVI
import Derived.Test.YteijcbpafmijfaaDoorDecFI
import Derived.Test.YteijcbpafmijfaaDoorEncHI
import Derived.Test.YteijcbpafmijfaaDoorDecHI
import Derived.Test.YteijcbpafmijfaaDoorEncF
import Derived.Deep.DeepCutAuto
namespace Go.Proofs.YteijcbpafmijfaaDoor
open Go.RowKit Plain
set_option linter.unusedVariables false

/-- A slice of bytes that came in is code that can be read. -/
theorem codeIn {w : World} {a : Option Addr} {len cap : Nat} {zs : List Int}
    (h : (a = none ∧ len = 0 ∧ cap = 0 ∧ zs = []) ∨ ∃ x, a = some x ∧ len ≤ cap ∧ cap ≤ maxLen ∧ zs.length = cap ∧ (∀ i, i < zs.length → w.cell? (x.add i) = some (.int .u8 (zs.getD i 0))) ∧ ∀ n ∈ zs, (Lit.int .u8 n).wf = true)
    (hl : (len : Int) ≤ 1048576) : CodeIn w (.slice a len cap) len := by
  refine ⟨a, cap, rfl, by omega, fun h0 => ?_⟩
  rcases h with ⟨_, rfl, _⟩ | ⟨x, rfl, hlc, hm, hz, hcell, hwf⟩
  · omega
  · obtain ⟨ab, off, spot⟩ := x
    have hc := hcell 0 (by omega)
    have hspot : spot = none := by simpa [Addr.add] using World.cell?_spot hc
    subst hspot
    have hlt := World.block_lt_of_cell? w _ hc
    refine ⟨ab, off, rfl, by simpa [Addr.add] using hlt, fun j hj => ?_⟩
    have hj' : j < zs.length := by omega
    have hb := hwf (zs.getD j 0) (by simp [List.getD, hj'])
    have e1 : IntKind.u8.min = 0 := rfl
    have e2 : IntKind.u8.max = 255 := rfl
    simp only [Lit.wf, Bool.and_eq_true, decide_eq_true_eq, e1, e2] at hb
    have hadd : (⟨ab, off, none⟩ : Addr).add j = ⟨ab, off + j, none⟩ := by unfold Addr.add; split <;> simp_all
    have hcj := hcell j hj'
    rw [hadd] at hcj
    exact ⟨zs.getD j 0, hb.1, hb.2, hcj⟩

theorem codeLen {w : World} {a : Option Addr} {len cap : Nat} {zs : List Int}
    (h : (a = none ∧ len = 0 ∧ cap = 0 ∧ zs = []) ∨ ∃ x, a = some x ∧ len ≤ cap ∧ cap ≤ maxLen ∧ zs.length = cap ∧ (∀ i, i < zs.length → w.cell? (x.add i) = some (.int .u8 (zs.getD i 0))) ∧ ∀ n ∈ zs, (Lit.int .u8 n).wf = true) :
    (len : Int) ≤ 9223372036854775807 := by
  rcases h with ⟨_, rfl, _⟩ | ⟨x, _, hlc, hm, _⟩
  · omega
  · unfold maxLen at hm; omega

theorem DecV.listed (l : List UInt8) (hl : l.length ≤ 4000000) (w : World) :
    Calls Tryd.prog 10 #[.string ⟨l.toArray⟩] w fun e w' => e = .returned (.tuple #[.int .i64 (decN l), .int .i64 (decK l)]) ∧ Below w.heap.size w w' := by
  have h := DecV.impl ⟨l.toArray⟩ (by show ((l.toArray.size : Nat) : Int) ≤ _; simp; omega) w
  simpa using h

/-- What DecodeFixed answers of a list of bytes. -/
def decL (l : List UInt8) (width : Int) : Int × Bool := decF ⟨l.toArray⟩ width
theorem DecF.listed (l : List UInt8) (width : Int) (hl : l.length ≤ 1000000) (w : World) :
    Calls Tryd.prog 13 #[.string ⟨l.toArray⟩, .int .i64 width] w fun e w' => e = .returned (.tuple #[.int .i64 (decL l width).1, .bool (decL l width).2]) ∧ w = w' :=
  DecF.impl ⟨l.toArray⟩ width (by show l.toArray.size ≤ _; simp; omega) w
theorem EncH.listed (l : List UInt8) (hl : l.length ≤ 4000000) (w : World) :
    Calls Tryd.prog 15 #[.string ⟨l.toArray⟩] w fun e w' => e = .returned (.string ⟨(encH l).toArray⟩) ∧ Below w.heap.size w w' := by
  have h := EncH.impl ⟨l.toArray⟩ (by show ((l.toArray.size : Nat) : Int) ≤ _; simp; omega) w
  simpa using h
theorem DecH.listed (l : List UInt8) (hl : l.length ≤ 4000000) (w : World) :
    Calls Tryd.prog 16 #[.string ⟨l.toArray⟩] w fun e w' => e = .returned (.tuple #[.string ⟨(decText l).toArray⟩, .bool (decFine l)]) ∧ Below w.heap.size w w' := by
  have h := DecH.impl ⟨l.toArray⟩ (by show ((l.toArray.size : Nat) : Int) ≤ _; simp; omega) w
  simpa using h
theorem ParI.listed (l : List UInt8) (hl : l.length ≤ 4000000) (w : World) (ht : Pow10 w) (hv : ErrVars w) :
    Calls Tryd.prog 18 #[.string ⟨l.toArray⟩] w fun e w' => e = .returned (.tuple #[.int .i64 (parN l), .bool (parB l)]) ∧ Below w.heap.size w w' := by
  have h := ParI.impl ⟨l.toArray⟩ (by show ((l.toArray.size : Nat) : Int) ≤ _; simp; omega) w ht hv
  simpa using h
theorem DecH.back (l : List UInt8) (hl : l.length ≤ 1000000) (w : World) :
    Calls Tryd.prog 16 #[.string ⟨(encH l).toArray⟩] w fun e w' => e = .returned (.tuple #[.string ⟨l.toArray⟩, .bool true]) ∧ Below w.heap.size w w' := by
  have h := DecH.listed (encH l) (by rw [encH_len]; omega) w
  have e1 : decText (encH l) = l := by unfold decText; rw [decH_encH]; rfl
  have e2 : decFine (encH l) = true := by unfold decFine; rw [decH_encH]; rfl
  rwa [e1, e2] at h

/-- EncodeVarint's answer: nothing where the number is out of range; else bytes from which, whatever follows, the number is read back. -/
theorem encV_parts (n : Int) : (¬ (0 ≤ n ∧ n ≤ 562949953421311) ∧ encV n = []) ∨ ((0 ≤ n ∧ n ≤ 562949953421311) ∧ ∃ c t, encV n = c :: t ∧ (c :: t).length ≤ 7 ∧ ∀ l, decN (c :: t ++ l) = n ∧ decK (c :: t ++ l) = (c :: t).length) := by
  by_cases h : 0 ≤ n ∧ n ≤ 562949953421311
  · obtain ⟨m, rfl⟩ := Int.eq_ofNat_of_zero_le h.1
    refine .inr ⟨h, ?_⟩
    have hm : m ≤ 562949953421311 := by omega
    rw [encV_in m hm]
    have h7 := vbytes_len7 m hm
    have hd := fun l => dec_encV m l hm
    have hne : vbytes m ≠ [] := by rw [vbytes]; split <;> simp
    generalize vbytes m = b at h7 hd hne
    match b, hne with
    | c :: t, _ => exact ⟨c, t, rfl, h7, fun l => ⟨congrArg (fun x : Nat => (x : Int)) (hd l).1, (hd l).2⟩⟩
  · exact .inl ⟨h, encV_out h⟩

/-- EncodeFixed's answer: nothing, or bytes as many as the width from which the number is read back. -/
theorem encF_parts (n width : Int) : encF n width = [] ∨ ∃ c t, encF n width = c :: t ∧ ((c :: t).length : Int) = width ∧ (c :: t).length ≤ 7 ∧ ∀ l, decL (c :: t ++ l) width = (n, true) := by
  by_cases h : 1 ≤ width ∧ width ≤ 7 ∧ 0 ≤ n
  · obtain ⟨k, rfl⟩ := Int.eq_ofNat_of_zero_le (a := width) (by omega)
    obtain ⟨m, rfl⟩ := Int.eq_ofNat_of_zero_le (a := n) (by omega)
    rw [encF_in k m (by omega)]
    by_cases hm : m < 256 ^ k
    · rw [encK_yes hm]
      refine .inr ?_
      have hlen := be_len k m
      have hback := be_beN k m hm
      have hdec : ∀ l, decL (be k m ++ l) (k : Int) = ((m : Int), true) := by
        intro l
        unfold decL
        rw [decF_yes]
        · have e : (ByteArray.mk (be k m ++ l).toArray).data.toList.take k = be k m := by
            show ((be k m ++ l).toArray).toList.take k = _
            rw [List.toList_toArray, List.take_append_of_le_length (by omega), List.take_of_length_le (by omega)]
          rw [e, hback]
        · refine ⟨by omega, by omega, ?_⟩
          show (k : Int) ≤ (((be k m ++ l).toArray.size : Nat) : Int)
          simp [hlen]
          omega
      generalize be k m = b at hlen hdec
      match b, hlen with
      | [], hlen => simp at hlen; omega
      | c :: t, hlen => exact ⟨c, t, rfl, by rw [hlen], by omega, fun l => by simpa using hdec l⟩
    · exact .inl (encK_no hm)
  · exact .inl (encF_out n width (by omega))

set_option maxRecDepth 100000 in
set_option maxHeartbeats 8000000 in
theorem LawI.walk (a0 : Option Addr) (len0 cap0 : Nat) (z0 : List Int) (w : World)
    (w0 : (a0 = none ∧ len0 = 0 ∧ cap0 = 0 ∧ z0 = []) ∨ ∃ x, a0 = some x ∧ len0 ≤ cap0 ∧ cap0 ≤ maxLen ∧ z0.length = cap0 ∧ (∀ i, i < z0.length → w.cell? (x.add i) = some (.int .u8 (z0.getD i 0))) ∧ ∀ n ∈ z0, (Lit.int .u8 n).wf = true)
    (ht : Pow10 w) (hv : ErrVars w) :
    Calls Tryd.prog 3 #[.slice a0 len0 cap0] w fun e w' => e = .returned (.bool true) ∧ Below w.heap.size w w' := by
  have HBIG := Lib.hid (Draw.big a0 len0 cap0 (codeLen w0) w)
  have HT := Lib.hid ht
  have HV := Lib.hid hv
  by_cases hbig : (1048576 : Int) < (len0 : Int)
  · clear w0 ht hv
    go_enter Tryd.func3, Tryd.ntmps3
    go_wp2_with fail
    refine HBIG.out.mono ?_
    rintro e w1 ⟨rfl, rfl⟩
    go_wp2
    go_ret
    exact ⟨rfl, Below.refl _ _⟩
  · have HC := Lib.hid (codeIn w0 (by omega))
    have hbf : decide ((1048576 : Int) < (len0 : Int)) = false := decide_eq_false hbig
    clear w0 ht hv hbig
    go_enter Tryd.func3, Tryd.ntmps3
    go_wp2_with fail
    refine HBIG.out.mono ?_
    rintro e w1 ⟨rfl, rfl⟩
    clear HBIG
    go_wp2_with fail
    refine (Draw.encodeVarint _ len0 _ HC.out).mono ?_
    rintro e w1 ⟨n, rfl, hn, hb⟩
    have HN := Lib.hid hn
    have HB1 := Lib.hid hb
    clear hn hb hbf
    go_wp2_with fail
    refine (Draw.encodeHex _ len0 _ (HC.out.below HB1.out)).mono ?_
    rintro e w2 ⟨l, rfl, hl, hb⟩
    have HB2 := Lib.hid (HB1.out.trans (hb.mono HB1.out.size))
    clear hb
    go_wp2_with fail
    refine (EncV.impl n _).mono ?_
    rintro e w3 ⟨rfl, hb⟩
    have HB3 := Lib.hid (HB2.out.trans (hb.mono HB2.out.size))
    clear hb
    have hvl : (encV n).length ≤ 7 := by
      rcases encV_parts n with ⟨_, he⟩ | ⟨_, c, t, he, h7, _⟩
      · rw [he]; simp
      · rw [he]; exact h7
    have hj := join_text (encV n) l (by omega)
    have HVL := Lib.hid hvl
    clear hvl
    go_wp2_with fail
    refine (DecV.listed _ (by have := HVL.out; simp; omega) _).mono ?_
    rintro e w4 ⟨rfl, hb⟩
    have HB4 := Lib.hid (HB3.out.trans (hb.mono HB3.out.size))
    clear hb hj
    rcases encV_parts n with ⟨hr, he⟩ | ⟨hr, c, t, he, h7, hd⟩
    case' inl =>
      rw [he]
      have HRR := Lib.hid hr
      clear hr he HVL
    case' inr =>
      have HD := Lib.hid (hd l)
      rw [he, HD.out.1, HD.out.2]
      obtain ⟨hr1, hr2⟩ := hr
      clear hd h7 he HVL
    all_goals go_wp2_with fail
    all_goals (first | exact absurd (And.intro (by assumption) (by assumption)) HRR.out | skip)
    all_goals
      refine (Draw.encodeFixed _ len0 _ (HC.out.below HB4.out)).mono ?_
      rintro e w5 ⟨v, width, rfl, hv64, hw1, hw2, hb⟩
      have HV64 := Lib.hid hv64
      have HB5 := Lib.hid (HB4.out.trans (hb.mono HB4.out.size))
      clear hb hv64
      go_wp2_with fail
      refine (EncF.impl v width HV64.out.2 _).mono ?_
      rintro e w6 ⟨rfl, hb⟩
      have HB6 := Lib.hid (HB5.out.trans (hb.mono HB5.out.size))
      clear hb
      have hfl : (encF v width).length ≤ 7 := by
        rcases encF_parts v width with he | ⟨c, t, he, _, h7, _⟩
        · rw [he]; simp
        · rw [he]; exact h7
      have hj := join_text (encF v width) l (by omega)
      have HFL := Lib.hid hfl
      clear hfl
      go_wp2_with fail
      refine (DecF.listed _ width (by have := HFL.out; simp; omega) _).mono ?_
      rintro e w7 ⟨rfl, rfl⟩
      clear hj
      have HS := EncF.spec v width HV64.out.2
      rcases encF_parts v width with he | ⟨c2, t2, he, hlen, _, hd⟩
      case' inl =>
        rw [he] at HS
        rw [he]
        have HS := Lib.hid HS
        clear he HFL
      case' inr =>
        rw [he] at HS
        have HD := Lib.hid (hd l)
        rw [he, HD.out]
        have HS := Lib.hid HS
        have hwe : width = (t2.length : Int) + 1 := by simp at hlen; omega
        clear hd he HFL hlen
        subst hwe
      all_goals
        go_wp2_with fail
        refine (HS.out _).mono ?_
        rintro e w7 ⟨rfl, hb⟩
        have HB7 := Lib.hid (HB6.out.trans (hb.mono HB6.out.size))
        clear hb
        go_wp2_with fail
        refine (EncH.listed l (by omega) _).mono ?_
        rintro e w8 ⟨rfl, hb⟩
        have HB8 := Lib.hid (HB7.out.trans (hb.mono HB7.out.size))
        clear hb
        go_wp2_with fail
        refine (DecH.back l (by omega) _).mono ?_
        rintro e w9 ⟨rfl, hb⟩
        have HB9 := Lib.hid (HB8.out.trans (hb.mono HB8.out.size))
        clear hb
        go_wp2_with fail
        refine (FmtI.impl v HV64.out _ (HT.out.stays HB9.out (Nat.le_refl _))).mono ?_
        rintro e w10 ⟨rfl, hb⟩
        have HB10 := Lib.hid (HB9.out.trans (hb.mono HB9.out.size))
        clear hb
        go_wp2_with fail
        refine (ParI.listed _ (by have := Lib.itoa_length_le v HV64.out.1 HV64.out.2; omega) _ (HT.out.stays HB10.out (Nat.le_refl _)) (HV.out.stays HB10.out (Nat.le_refl _))).mono ?_
        rintro e w11 ⟨rfl, hb⟩
        have HB11 := Lib.hid (HB10.out.trans (hb.mono HB10.out.size))
        clear hb
        have hel : (encH l).length = 2 * l.length := encH_len l
        by_cases hin : -999999999 ≤ v ∧ v ≤ 999999999
        · obtain ⟨p1, p2⟩ := par_itoa_in hin
          rw [p1, p2]
          obtain ⟨hin1, hin2⟩ := hin
          clear p1 p2
          have hq1 : -1000000000 < v := by omega
          have hq2 : v < 1000000000 := by omega
          go_wp2_with fail
          refine (FmtI.spec v HV64.out _).mono ?_
          rintro e w12 ⟨rfl, hb⟩
          have HB12 := Lib.hid (HB11.out.trans (hb.mono HB11.out.size))
          clear hb
          go_wp2
          all_goals go_ret
          all_goals (first | exact ⟨rfl, HB12.out⟩ | exact ⟨ret_bool (by rw [decide_eq_false (show ¬ v < 1000000000 by omega)]; rfl), HB12.out⟩)
        · obtain ⟨p1, p2⟩ := par_itoa_out HV64.out hin
          rw [p1, p2]
          clear p1 p2
          go_wp2_with fail
          refine (FmtI.spec v HV64.out _).mono ?_
          rintro e w12 ⟨rfl, hb⟩
          have HB12 := Lib.hid (HB11.out.trans (hb.mono HB11.out.size))
          clear hb
          go_wp2
          all_goals go_ret
          all_goals (first | exact ⟨rfl, HB12.out⟩ | exact ⟨ret_bool (by rw [decide_eq_false (show ¬ v < 1000000000 by omega)]; rfl), HB12.out⟩)
end Go.Proofs.YteijcbpafmijfaaDoor
