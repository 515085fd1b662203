/-
  ParseInt of the program and of its model: both answer 'Plain.parN' and 'Plain.parB'.
-/
import Derived.Test.YteijcbpafmijfaaDoorDoor
import Derived.Test.YteijcbpafmijfaaDoorPlainP
import Derived.Deep.DeepMust
namespace Go.Proofs.YteijcbpafmijfaaDoor
open Go.RowKit Plain
set_option linter.unusedVariables false

theorem ret_par {a b : Int} {x y : Bool} (h : a = b) (g : x = y) : Ending.returned (.tuple #[.int .i64 a, .bool x]) = .returned (.tuple #[.int .i64 b, .bool y]) := by rw [h, g]

/-- What the failing ways of the library's Atoi read. -/
def ErrVars (W : World) : Prop := (∃ t p, W.var? Tryd.prog "strconv.ErrSyntax" = some #[.iface t p]) ∧ ∃ t p, W.var? Tryd.prog "strconv.ErrRange" = some #[.iface t p]

theorem gSyn : Tryd.prog.globalNamed "strconv.ErrSyntax" = some 0 := by kernel_rfl
theorem gRan : Tryd.prog.globalNamed "strconv.ErrRange" = some 1 := by kernel_rfl
theorem gSynType : (Tryd.prog.globals[0]?).map (·.type) = some 48 := by kernel_rfl
theorem gRanType : (Tryd.prog.globals[1]?).map (·.type) = some 48 := by kernel_rfl
theorem cellsErr : Tryd.prog.cellsOf 84 = 1 := by kernel_rfl
theorem cellsText : Tryd.prog.cellsOf 9 = 1 := by kernel_rfl
theorem starErr : "*" ++ "errors.errorString" = "*errors.errorString" := by decide
theorem rowErr (u : TypeId) (h : Tryd.prog.typeName? 3 u = some "*errors.errorString") : u = 82 :=
  typeName_ptr_named (nm := "errors.errorString") (by rw [starErr]; kernel_rfl) (by kernel_rfl) (by decide) u (by rw [starErr]; exact h)

theorem ErrVars.stays {w w' : World} {B : Nat} (h : ErrVars w) (hb : Below B w w') (hB : w.heap.size ≤ B) : ErrVars w' := by
  obtain ⟨⟨t1, p1, h1⟩, t2, p2, h2⟩ := h
  exact ⟨⟨t1, p1, Joins.var_stays gSyn h1 hb hB⟩, t2, p2, Joins.var_stays gRan h2 hb hB⟩

theorem errVars {W : World} {r : List (String × DataW Unit)} (h : laidMet Tryd.prog (("strconv.ErrRange", Rows.laid_strconv_ErrRange) :: ("strconv.ErrSyntax", Rows.laid_strconv_ErrSyntax) :: r) W) : ErrVars W := by
  obtain ⟨a0, s0, hv0, -, -, -⟩ := laid_sentinel h gRan gRanType Tryd.underlying48 rowErr Tryd.underlying82 Tryd.underlying84 rfl rfl Tryd.underlying9 cellsErr cellsText
  obtain ⟨a1, s1, hv1, -, -, -⟩ := laid_sentinel h.tail gSyn gSynType Tryd.underlying48 rowErr Tryd.underlying82 Tryd.underlying84 rfl rfl Tryd.underlying9 cellsErr cellsText
  exact ⟨⟨_, _, hv1⟩, _, _, hv0⟩

/-- Atoi ends with the number and no error, or with an error. -/
theorem atoiCall_ok (s : ByteArray) (hs : (s.size : Int) ≤ 4000000) (v : Int) (h : Lib.atoiAll s.data.toList = .ok v) (w : World) :
    Calls Tryd.prog 29 #[.string s] w fun e w' => e = .returned (.tuple #[.int .i64 v, .nilIface]) ∧ Below w.heap.size w w' := by
  refine (show Calls Tryd.prog 29 #[.string s] w _ from Go.Proofs.Any.strconv_Atoi_ok Go.Proofs.Tryd.laysC172 s (by omega) v h w).mono ?_
  rintro e w' ⟨rfl, hw⟩
  refine ⟨rfl, ?_⟩
  rcases hw with rfl | ⟨t, rfl⟩
  · exact Below.refl _ _
  · exact ⟨rfl, rfl, rfl, by rw [Lib.bytesWorld_size]; omega, fun i hi => Lib.bytesWorld_at_old _ _ _ i hi⟩

theorem atoiCall_bad (s : ByteArray) (hs : (s.size : Int) ≤ 4000000) (h : ∀ v, Lib.atoiAll s.data.toList ≠ .ok v) (w : World) (hv : ErrVars w) :
    Calls Tryd.prog 29 #[.string s] w fun e w' => ∃ n t p, e = .returned (.tuple #[.int .i64 n, .iface t p]) ∧ Below w.heap.size w w' := by
  obtain ⟨⟨t1, p1, h1⟩, t2, p2, h2⟩ := hv
  rcases hx : Lib.atoiAll s.data.toList with v | _ | _
  · exact absurd hx (h v)
  · refine (show Calls Tryd.prog 29 #[.string s] w _ from Go.Proofs.Any.strconv_Atoi_syntax_var Go.Proofs.Tryd.laysC172 s (by omega) hx t1 p1 w h1).mono ?_
    rintro e w' ⟨N, rfl, _, _, hb⟩
    exact ⟨_, _, _, rfl, hb⟩
  · refine (show Calls Tryd.prog 29 #[.string s] w _ from Go.Proofs.Any.strconv_Atoi_range_var Go.Proofs.Tryd.laysC172 s (by omega) hx t2 p2 w h2).mono ?_
    rintro e w' ⟨N, rfl, _, _, hb⟩
    exact ⟨_, _, _, rfl, hb⟩

theorem text_eq {l : List UInt8} {s : ByteArray} (h : (!l == s.toList) = false) : l = s.data.toList := by
  rw [ByteArray.toList_eq] at h; simpa using h
theorem text_ne {l : List UInt8} {s : ByteArray} (h : (!l == s.toList) = true) : l ≠ s.data.toList := by
  rw [ByteArray.toList_eq] at h; simpa using h

set_option maxRecDepth 100000 in
set_option maxHeartbeats 1000000 in
theorem ParI.impl (s : ByteArray) (hs : (s.size : Int) ≤ 4000000) (w : World) (ht : Pow10 w) (hv : ErrVars w) :
    Calls Tryd.prog 18 #[.string s] w fun e w' => e = .returned (.tuple #[.int .i64 (parN s.data.toList), .bool (parB s.data.toList)]) ∧ Below w.heap.size w w' := by
  by_cases hok : ∃ v, Lib.atoiAll s.data.toList = .ok v
  · obtain ⟨v, hx⟩ := hok
    have HA := Lib.hid (atoiCall_ok s hs v hx w)
    have HX := Lib.hid hx
    have HT := Lib.hid ht
    clear hs hx ht hv
    by_cases hr : -999999999 ≤ v ∧ v ≤ 999999999
    · obtain ⟨hr1, hr2⟩ := hr
      have HF := Lib.hid (FmtI.impl v (by omega))
      go_enter Tryd.func18, Tryd.ntmps18
      go_wp2_with fail
      refine HA.out.mono ?_
      rintro e w1 ⟨rfl, hb1⟩
      have HT1 := Lib.hid (HT.out.stays hb1 (Nat.le_refl _))
      go_wp2_with fail
      refine (HF.out _ HT1.out).mono ?_
      rintro e w2 ⟨rfl, hb2⟩
      go_wp2
      · have ht : (!Lib.itoa v == s.toList) = true := by assumption
        have hn := par_no (l := s.data.toList) (fun u hu => by
          have e := (isInt_parts hu).2.2.2
          rw [HX.out] at e
          injection e with e
          subst e
          exact text_ne ht hu.2.2)
        go_ret2
        exact ⟨ret_par hn.1.symm hn.2.symm, hb1.trans (hb2.mono hb1.size)⟩
      · have ht : (!Lib.itoa v == s.toList) = false := by assumption
        have hy := par_yes (l := s.data.toList) ⟨hr1, hr2, text_eq ht⟩
        go_ret2
        exact ⟨ret_par hy.1.symm hy.2.symm, hb1.trans (hb2.mono hb1.size)⟩
    · have hn := Lib.hid (par_no (l := s.data.toList) (fun u hu => by
          have e := (isInt_parts hu).2.2.2
          rw [HX.out] at e
          injection e with e
          subst e
          exact hr ⟨hu.1, hu.2.1⟩))
      by_cases h1 : v < -999999999
      · clear hr
        go_enter Tryd.func18, Tryd.ntmps18
        go_wp2_with fail
        refine HA.out.mono ?_
        rintro e w1 ⟨rfl, hb1⟩
        go_wp2
        go_ret2
        exact ⟨ret_par hn.out.1.symm hn.out.2.symm, hb1⟩
      · have h2 : 999999999 < v := by omega
        clear hr
        go_enter Tryd.func18, Tryd.ntmps18
        go_wp2_with fail
        refine HA.out.mono ?_
        rintro e w1 ⟨rfl, hb1⟩
        go_wp2
        go_ret2
        exact ⟨ret_par hn.out.1.symm hn.out.2.symm, hb1⟩
  · have hbad : ∀ v, Lib.atoiAll s.data.toList ≠ .ok v := fun v hv => hok ⟨v, hv⟩
    have HA := Lib.hid (atoiCall_bad s hs hbad w hv)
    have hn := Lib.hid (par_no (l := s.data.toList) (fun u hu => hbad u (isInt_parts hu).2.2.2))
    clear hs ht hv hok hbad
    go_enter Tryd.func18, Tryd.ntmps18
    go_wp2_with fail
    refine HA.out.mono ?_
    rintro e w1 ⟨n, t, p, rfl, hb1⟩
    go_wp2
    go_ret2
    exact ⟨ret_par hn.out.1.symm hn.out.2.symm, hb1⟩

theorem head_at (s : ByteArray) (h : 0 < s.size) : s.data.toList.head? = some s[0] := by
  rw [List.head?_eq_getElem?, List.getElem?_eq_getElem (by simpa using h)]; rfl
theorem mval_neg {s : ByteArray} (h : 0 < s.size) (t : ((s[0].toNat : Int) == 45) = true) : mval s.data.toList = -(dval (s.data.toList.take 11) : Int) := by
  unfold mval isNeg
  rw [if_pos]
  rw [head_at s h]
  rw [beq_iff_eq] at t
  have e45 : (45 : UInt8).toNat = 45 := rfl
  have : s[0] = 45 := UInt8.toNat_inj.1 (by omega)
  rw [this]
  rfl
theorem mval_pos {s : ByteArray} (h : 0 < s.size) (t : ((s[0].toNat : Int) == 45) = false) : mval s.data.toList = dval (s.data.toList.take 11) := by
  unfold mval isNeg
  rw [if_neg]
  rw [head_at s h]
  rw [beq_eq_false_iff_ne] at t
  intro e
  rw [beq_iff_eq, Option.some.injEq] at e
  rw [e] at t
  exact t rfl
theorem par_long {l : List UInt8} (h : 10 < l.length) : parN l = 0 ∧ parB l = false := par_no (fun v hv => by have := (isInt_parts hv).2.2.1; omega)
theorem par_many {l : List UInt8} (h : 9 < dcnt (l.take 11)) : parN l = 0 ∧ parB l = false := par_no (fun v hv => by have := (isInt_parts hv).2.1; omega)
theorem par_empty {l : List UInt8} (h : l = []) : parN l = 0 ∧ parB l = false := par_no (fun v hv => by
  have h1 := (isInt_parts hv).2.2.2
  rw [h] at h1
  simp [Lib.atoiAll] at h1)
/-- The text is not the number's, or it is too long. -/
def BadText (l : List UInt8) (v : Int) : Prop := 9 < dcnt (l.take 11) ∨ 10 < l.length ∨ Lib.itoa v ≠ l
theorem bad_text {s : ByteArray} {v : Int} {q : Nat} (hq : dcnt (s.data.toList.take 11) = q) (h : (9 < (q : Int) ∨ 10 < (s.size : Int)) ∨ (!Lib.itoa v == s.toList) = true) : BadText s.data.toList v := by
  rcases h with (h | h) | h
  · exact .inl (by omega)
  · exact .inr (.inl (by simp; omega))
  · exact .inr (.inr (text_ne h))
theorem par_wrong {l : List UInt8} (h : BadText l (mval l)) : parN l = 0 ∧ parB l = false := by
  rcases h with h | h | h
  · exact par_many h
  · exact par_long h
  · refine par_no (fun v hv => h ?_)
    rw [(isInt_parts hv).1]
    exact hv.2.2
theorem par_right {l : List UInt8} (h9 : dcnt (l.take 11) ≤ 9) (ht : Lib.itoa (mval l) = l) : parN l = mval l ∧ parB l = true := by
  refine par_yes ⟨?_, ?_, ht⟩ <;>
    (have h1 := dval_lt _ (l.take 11) rfl
     have h2 : 10 ^ dcnt (l.take 11) ≤ 10 ^ 9 := Nat.pow_le_pow_right (by omega) h9
     unfold mval
     split <;> omega)

theorem dval_next_dig (s : ByteArray) (j : Nat) (hj : j < s.size) (h : isDig s[j] = true) : dval (s.data.toList.take (j + 1)) = dval (s.data.toList.take j) * 10 + (s[j].toNat - 48) ∧ dcnt (s.data.toList.take (j + 1)) = dcnt (s.data.toList.take j) + 1 := by
  rw [take_snoc s j hj]; exact ⟨dval_snoc_dig _ _ h, dcnt_snoc_dig _ _ h⟩
theorem dval_next_not (s : ByteArray) (j : Nat) (hj : j < s.size) (h : isDig s[j] = false) : dval (s.data.toList.take (j + 1)) = dval (s.data.toList.take j) ∧ dcnt (s.data.toList.take (j + 1)) = dcnt (s.data.toList.take j) := by
  rw [take_snoc s j hj]; exact ⟨dval_snoc_not _ _ h, dcnt_snoc_not _ _ h⟩
theorem isDig_yes {c : UInt8} (h1 : 48 ≤ (c.toNat : Int)) (h2 : (c.toNat : Int) ≤ 57) : isDig c = true := by unfold isDig; simp; omega
theorem isDig_no {c : UInt8} (h : ¬ (48 ≤ (c.toNat : Int) ∧ (c.toNat : Int) ≤ 57)) : isDig c = false := by unfold isDig; simp; omega

set_option maxRecDepth 100000 in
set_option maxHeartbeats 4000000 in
theorem ParI.spec (s : ByteArray) (hs : (s.size : Int) ≤ 4000000) (w : World) :
    Calls Tryd.prog 20 #[.string s] w fun e w' => e = .returned (.tuple #[.int .i64 (parN s.data.toList), .bool (parB s.data.toList)]) ∧ Below w.heap.size w w' := by
  go_enter Tryd.func20, Tryd.ntmps20
  go_wp2
  go_loop [4, 5, 6] (fun n k i => ∃ j : Nat, j ≤ s.size ∧ j ≤ 11 ∧ i = .int .i64 (j : Int) ∧ n = .int .i64 (dval (s.data.toList.take j) : Int) ∧ k = .int .i64 (dcnt (s.data.toList.take j) : Int)) (fun _ _ i => 11 - (intOf i).toNat)
  case atStart => exact ⟨0, by omega, by omega, rfl, rfl, rfl⟩
  case round =>
    obtain ⟨j, hjs, hj11, rfl, rfl, rfl⟩ := hrel
    have hlen : (s.data.toList.take j).length = j := by rw [List.length_take]; simp; omega
    have hlt := dval_lt_len (s.data.toList.take j)
    have hct := dcnt_le (s.data.toList.take j)
    rw [hlen] at hlt hct
    have hn63 : (dval (s.data.toList.take j) : Int) ≤ 100000000000 := by
      have : 10 ^ j ≤ 10 ^ 11 := Nat.pow_le_pow_right (by omega) hj11
      omega
    have hk63 : (dcnt (s.data.toList.take j) : Int) ≤ 11 := by omega
    by_cases hin : j < s.size ∧ j < 11
    · obtain ⟨hjlt, hj1⟩ := hin
      have hc256 := s[j].toNat_lt
      by_cases h1 : 48 ≤ (s[j].toNat : Int)
      · by_cases h2 : (s[j].toNat : Int) ≤ 57
        · have HD := Lib.hid (dval_next_dig s j hjlt (isDig_yes h1 h2))
          clear hlen hlt hct hs
          generalize dval (s.data.toList.take j) = m at hn63 HD ⊢
          generalize dcnt (s.data.toList.take j) = q at hk63 HD ⊢
          go_wp2
          go_round
          case rel => exact ⟨j + 1, by omega, by omega, by go_num, by rw [HD.out.1]; go_num, by rw [HD.out.2]; go_num⟩
          case measure => simp [intOf]; omega
        · have HD := Lib.hid (dval_next_not s j hjlt (isDig_no (fun h => h2 h.2)))
          clear hlen hlt hct hs
          generalize dval (s.data.toList.take j) = m at hn63 HD ⊢
          generalize dcnt (s.data.toList.take j) = q at hk63 HD ⊢
          go_wp2
          go_round
          case rel => exact ⟨j + 1, by omega, by omega, by go_num, by rw [HD.out.1], by rw [HD.out.2]⟩
          case measure => simp [intOf]; omega
      · have HD := Lib.hid (dval_next_not s j hjlt (isDig_no (fun h => h1 h.1)))
        clear hlen hlt hct hs
        generalize dval (s.data.toList.take j) = m at hn63 HD ⊢
        generalize dcnt (s.data.toList.take j) = q at hk63 HD ⊢
        go_wp2
        go_round
        case rel => exact ⟨j + 1, by omega, by omega, by go_num, by rw [HD.out.1], by rw [HD.out.2]⟩
        case measure => simp [intOf]; omega
    · have HT : Hid (s.data.toList.take j = s.data.toList.take 11) := Lib.hid (by
        by_cases h : j = 11
        · rw [h]
        · rw [List.take_of_length_le (by simp; omega), List.take_of_length_le (by simp; omega)])
      have hdv := dval_lt _ (s.data.toList.take 11) rfl
      rw [HT.out] at hn63 hk63 ⊢
      clear hlen hlt hct
      have HDV := Lib.hid hdv
      clear hdv
      have HIN : Hid (¬ (j < s.size ∧ j < 11)) := Lib.hid hin
      clear hin
      generalize hm : dval (s.data.toList.take 11) = m at hn63 HDV ⊢
      generalize hq : dcnt (s.data.toList.take 11) = q at hk63 HDV ⊢
      have HM := Lib.hid hm
      have HQ := Lib.hid hq
      clear hm hq
      by_cases hA : j < s.size
      · have hj : ¬ (j : Int) < 11 := by have := HIN.out; omega
        have h0 : 0 < s.size := by omega
        have h10 : (10 : Int) < (s.size : Int) := by omega
        have hN := Lib.hid (par_long (l := s.data.toList) (by simp; omega))
        clear hs
        go_wp2_with (go_at_call 19; refine (FmtI.spec _ (by omega) _).mono ?_; rintro e w' ⟨rfl, hb2⟩)
        all_goals
          go_ret2
          exact ⟨ret_par hN.out.1.symm hN.out.2.symm, Below.refl _ _⟩
      · by_cases h0 : 0 < s.size
        · clear hs
          go_wp2_with (go_at_call 19; refine (FmtI.spec _ (by omega) _).mono ?_; rintro e w' ⟨rfl, hb2⟩)
          · have t1 : ((s[0].toNat : Int) == 45) = true := by assumption
            have t2 : (9 < (q : Int) ∨ 10 < (s.size : Int)) ∨ (!Lib.itoa (-(m : Int)) == s.toList) = true := by assumption
            have hN := par_wrong (by rw [mval_neg h0 t1, HM.out]; exact bad_text HQ.out t2)
            go_ret2
            exact ⟨ret_par hN.1.symm hN.2.symm, hb2⟩
          · have t1 : ((s[0].toNat : Int) == 45) = true := by assumption
            have t2 : ((q : Int) ≤ 9 ∧ (s.size : Int) ≤ 10) ∧ (!Lib.itoa (-(m : Int)) == s.toList) = false := by assumption
            have hY := par_right (by rw [HQ.out]; omega) (by rw [mval_neg h0 t1, HM.out]; exact text_eq t2.2)
            rw [mval_neg h0 t1, HM.out] at hY
            go_ret2
            exact ⟨ret_par hY.1.symm hY.2.symm, hb2⟩
          · have hN := par_long (l := s.data.toList) (by simp; omega)
            go_ret2
            exact ⟨ret_par hN.1.symm hN.2.symm, Below.refl _ _⟩
          · have hN := par_many (l := s.data.toList) (by rw [HQ.out]; omega)
            go_ret2
            exact ⟨ret_par hN.1.symm hN.2.symm, Below.refl _ _⟩
          · have t1 : ((s[0].toNat : Int) == 45) = false := by assumption
            have t2 : (9 < (q : Int) ∨ 10 < (s.size : Int)) ∨ (!Lib.itoa (m : Int) == s.toList) = true := by assumption
            have hN := par_wrong (by rw [mval_pos h0 t1, HM.out]; exact bad_text HQ.out t2)
            go_ret2
            exact ⟨ret_par hN.1.symm hN.2.symm, hb2⟩
          · have t1 : ((s[0].toNat : Int) == 45) = false := by assumption
            have t2 : ((q : Int) ≤ 9 ∧ (s.size : Int) ≤ 10) ∧ (!Lib.itoa (m : Int) == s.toList) = false := by assumption
            have hY := par_right (by rw [HQ.out]; omega) (by rw [mval_pos h0 t1, HM.out]; exact text_eq t2.2)
            rw [mval_pos h0 t1, HM.out] at hY
            go_ret2
            exact ⟨ret_par hY.1.symm hY.2.symm, hb2⟩
          · have hN := par_long (l := s.data.toList) (by simp; omega)
            go_ret2
            exact ⟨ret_par hN.1.symm hN.2.symm, Below.refl _ _⟩
          · have hN := par_many (l := s.data.toList) (by rw [HQ.out]; omega)
            go_ret2
            exact ⟨ret_par hN.1.symm hN.2.symm, Below.refl _ _⟩
        · have he : s.data.toList = [] := List.eq_nil_of_length_eq_zero (by rw [show s.data.toList.length = s.size by simp]; omega)
          have hN := Lib.hid (par_empty he)
          have hz : s.size = 0 := by omega
          have hzi : (s.size : Int) ≤ 0 := by omega
          have hm0 : m = 0 := by rw [← HM.out, he]; rfl
          have hq0 : q = 0 := by rw [← HQ.out, he]; rfl
          subst hm0
          subst hq0
          clear hs hz HM HQ HT he
          go_wp2_with (go_at_call 19; refine (FmtI.spec _ (by omega) _).mono ?_; rintro e w' ⟨rfl, hb2⟩)
          · go_ret2
            exact ⟨ret_par hN.out.1.symm hN.out.2.symm, hb2⟩
          · have t2 : (s.size : Int) ≤ 10 ∧ (!Lib.itoa 0 == s.toList) = false := by assumption
            have hy := par_yes (l := s.data.toList) ⟨by omega, by omega, text_eq t2.2⟩
            have := hN.out.2
            rw [hy.2] at this
            cases this
end Go.Proofs.YteijcbpafmijfaaDoor
