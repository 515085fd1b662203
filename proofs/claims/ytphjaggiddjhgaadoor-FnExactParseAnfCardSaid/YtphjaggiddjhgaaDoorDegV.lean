/-
  Chapter 11: ParseAnf of the model.
-/
import Derived.Test.YtphjaggiddjhgaaDoorDegS
import Derived.Test.YtphjaggiddjhgaaDoorDegF
import Derived.Test.YtphjaggiddjhgaaDoorTrmH
namespace Go.Proofs.YtphjaggiddjhgaaDoor
open Go.RowKit Plain
set_option linter.unusedVariables false

theorem lst_at (s : ByteArray) (k : Nat) (h : k < s.size) : (s.data.toList)[k]'(by simpa using h) = s[k] := rfl
theorem slice_one (s : ByteArray) (k : Nat) (h : k < s.size) (w : World) :
    (Instr.slice 9 (.string s) (some (.int .i64 (k : Int))) (some (.int .i64 ((k : Int) + 1))) none).run Tryd.prog w = .ok (.string ⟨[s[k]].toArray⟩) w := by
  rw [run_slice_string_if (h := Tryd.underlying9), if_pos (by omega), if_pos (by omega)]
  congr 2
  apply ByteArray.ext
  apply Array.ext'
  have e : (s.extract (k : Int).toNat ((k : Int) + 1).toNat).data.toList = (s.data.toList.drop k).take 1 := by
    rw [Lib.extract_data]
    rw [show (k : Int).toNat = k from rfl, show ((k : Int) + 1).toNat = k + 1 by omega]
    rw [Nat.add_sub_cancel_left]
  rw [e, byte_drop s k h]
  rfl

theorem str_is (s : ByteArray) (h : s.data.toList = [48]) : s = ⟨#[48]⟩ := by
  apply ByteArray.ext
  apply Array.ext'
  exact h
theorem str_not (s : ByteArray) (h : s.data.toList ≠ [48]) : (s.toList == [48]) = false ∧ (s.toList != [48]) = true := by
  rw [ByteArray.toList_eq]
  exact ⟨beq_eq_false_iff_ne.2 h, bne_iff_ne.2 h⟩
theorem text_ne (s : ByteArray) (x : List UInt8) :
    (x = s.data.toList → ((⟨x.toArray⟩ : ByteArray).toList == s.toList) = true ∧ ((⟨x.toArray⟩ : ByteArray).toList != s.toList) = false) ∧
    (x ≠ s.data.toList → ((⟨x.toArray⟩ : ByteArray).toList == s.toList) = false ∧ ((⟨x.toArray⟩ : ByteArray).toList != s.toList) = true) := by
  rw [ByteArray.toList_eq, ByteArray.toList_eq]
  constructor
  · intro h; rw [h]; exact ⟨beq_self_eq_true _, by simp⟩
  · intro h
    exact ⟨beq_eq_false_iff_ne.2 (by simpa using h), bne_iff_ne.2 (by simpa using h)⟩

theorem Paf.M_no1 (n : Int) (hn : ¬ (0 ≤ n ∧ n ≤ 5)) (s : ByteArray) (w : World) :
    Calls Tryd.prog 13 #[.int .i64 n, .string s] w fun e w' => e = .returned (.tuple #[.agg #[.int .i64 0, .int .i64 0], .bool false]) ∧ Below w.heap.size w w' := by
  have H := Lib.hid (Widths.in_no n 0 5 hn)
  clear hn
  go_enter Tryd.func13, Tryd.ntmps13
  go_wp2_with fail
  refine (H.out _).mono ?_
  rintro e w1 ⟨rfl, rfl⟩
  go_wp2_with fail
  exact bodyPost_ret (v := .tuple #[.agg #[.int .i64 0, .int .i64 0], .bool false]) (by simp [results, Tryd.results13, go_sem]) rfl ⟨rfl, (Below.refl _ _).alloc (Nat.le_refl _) _⟩

theorem Paf.M_no2 (n : Nat) (hn : n ≤ 5) (s : ByteArray) (hs : 200 < (s.size : Int)) (w : World) :
    Calls Tryd.prog 13 #[.int .i64 n, .string s] w fun e w' => e = .returned (.tuple #[.agg #[.int .i64 0, .int .i64 0], .bool false]) ∧ Below w.heap.size w w' := by
  have H := Lib.hid (Widths.in_yes (n : Int) 0 5 (by omega))
  go_enter Tryd.func13, Tryd.ntmps13
  go_wp2_with fail
  refine (H.out _).mono ?_
  rintro e w1 ⟨rfl, rfl⟩
  go_wp2_with fail
  exact bodyPost_ret (v := .tuple #[.agg #[.int .i64 0, .int .i64 0], .bool false]) (by simp [results, Tryd.results13, go_sem]) rfl ⟨rfl, (Below.refl _ _).alloc (Nat.le_refl _) _⟩

/-- What is asked of an answer at what was read. -/
structure PafIs (n : Nat) (s : List UInt8) (o : Option Nat) (r : Int × Int × Bool) : Prop where
  none : o = none → r = (0, 0, false)
  good : ∀ A, o = some A → fmA n (anW n A) = s → r = ((n : Int), (anW n A : Int), true)
  bad : ∀ A, o = some A → fmA n (anW n A) ≠ s → r = (0, 0, false)
theorem PafIs.of {n : Nat} {s : List UInt8} {o : Option Nat} (hn : n ≤ 5) (hs : s.length ≤ 200) (h : parA n s = enA n s o) : PafIs n s o (pafT n s) := by
  refine ⟨fun ho => ?_, fun A ho hf => ?_, fun A ho hf => ?_⟩
  · rw [ho] at h; exact pafT_none h
  · rw [ho, enA_some, if_pos hf] at h; exact pafT_some hn hs h
  · rw [ho, enA_some, if_neg hf] at h; exact pafT_none h

theorem isT_lt {n A : Nat} (hn : n ≤ 5) (h : A < 2 ^ 2 ^ n) : isT n A = true ∧ (A : Int) ≤ 4294967295 := by
  have h1 : A ≤ fullN n := by unfold fullN; omega
  have := fullN_le n hn
  exact ⟨isT_yes hn h1, by omega⟩

/-- FormatAnf of the table that was read. -/
theorem Fm.read (n A : Nat) (hn : n ≤ 5) (w : World) :
    Calls Tryd.prog 25 #[.agg #[.int .i64 n, .int .i64 (anW n A : Int)]] w fun e w' => e = .returned (.string ⟨(fmA n (anW n A)).toArray⟩) ∧ Below w.heap.size w w' := by
  have h := Fm.model n (anW n A : Int) w
  rwa [fmT_yes (isT_yes hn (anW_le n A))] at h

theorem orbit_any (A m : Nat) (hA : (A : Int) ≤ 4294967295) (hm : m < 32) : Go.bits .or .i64 (A : Int) (wrap64 ((2 : Int) ^ m)) = ((A ||| 2 ^ m : Nat) : Int) := orbit_i64 A m hA (by omega)

set_option maxRecDepth 100000 in
set_option maxHeartbeats 4000000 in
theorem Paf.M_yes (n : Nat) (hn : n ≤ 5) (s : ByteArray) (hs : (s.size : Int) ≤ 200) (r : Int × Int × Bool) (hr : PafIs n s.data.toList (if s.data.toList = [48] then some 0 else goP n s.data.toList [] 0) r) (w : World) :
    Calls Tryd.prog 13 #[.int .i64 n, .string s] w fun e w' => e = .returned (.tuple #[.agg #[.int .i64 r.1, .int .i64 r.2.1], .bool r.2.2]) ∧ Below w.heap.size w w' := by
  have H := Lib.hid (Widths.in_yes (n : Int) 0 5 (by omega))
  have HN := Lib.hid hn
  have hn5 : (n : Int) ≤ 5 := by omega
  generalize hO : (if s.data.toList = [48] then some 0 else goP n s.data.toList [] 0) = O at hr
  have HR := Lib.hid hr
  have HO := Lib.hid hO
  have HWB : Hid (∀ A : Nat, A < 2 ^ 2 ^ n → isT n A = true ∧ (A : Int) ≤ 4294967295) := Lib.hid (fun _ h => isT_lt hn h)
  have HAW : Hid (∀ A : Nat, (A : Int) ≤ 4294967295 → ∀ w, Calls Tryd.prog 24 #[.agg #[.int .i64 n, .int .i64 A]] w fun e w' => e = .returned (.int .i64 (anW n A : Int)) ∧ Below w.heap.size w w') := Lib.hid (fun A hA w => Anf.word n A hn hA w)
  have HFR : Hid (∀ (A : Nat) w, Calls Tryd.prog 25 #[.agg #[.int .i64 n, .int .i64 (anW n A : Int)]] w fun e w' => e = .returned (.string ⟨(fmA n (anW n A)).toArray⟩) ∧ Below w.heap.size w w') := Lib.hid (fun A w => Fm.read n A hn w)
  have HPT : Hid (∀ (p : List UInt8), p.length ≤ 300 → ∀ w, Calls Tryd.prog 23 #[.int .i64 n, .string ⟨p.toArray⟩] w fun e w' => e = .returned (parO (parT n p)) ∧ Below w.heap.size w w') := Lib.hid (fun p hp w => by
    have := Ptm.M n ⟨p.toArray⟩ (by simp [ByteArray.size]; omega) w
    simpa using this)
  clear hr hO hn
  go_enter Tryd.func13, Tryd.ntmps13
  go_wp2_with fail
  refine (H.out _).mono ?_
  rintro e w1 ⟨rfl, rfl⟩
  obtain ⟨W1, hW1⟩ : ∃ W1, w.alloc (.cells #[.int .i64 0, .int .i64 0] 23) = W1 := ⟨_, rfl⟩
  have hs1 : W1.heap.size = w.heap.size + 1 := by rw [← hW1]; simp
  have X1 : W1.heap[w.heap.size]? = some (.cells #[.int .i64 0, .int .i64 0] 23 (0, 0)) := by rw [← hW1]; exact heap_alloc_new w _
  have HBW : Hid (Below w.heap.size w W1) := Lib.hid (by rw [← hW1]; exact (Below.refl _ _).alloc (Nat.le_refl _) _)
  have HX1 := Lib.hid X1
  have HS1 := Lib.hid hs1
  rw [hW1]
  clear hW1 X1 hs1
  go_wp2_with fail
  go_loopw [6, 7, 8, 9, 10] (fun v q i _ _ wr => ∃ (k A : Nat) (p : List UInt8), i = .int .i64 (k : Int) ∧ v = .int .i64 (A : Int) ∧ q = .string ⟨p.toArray⟩ ∧ A < 2 ^ 2 ^ n ∧ p.length ≤ k ∧ k ≤ s.size + 1 ∧
    Hid ((O = some A ∧ (k = s.size + 1 ∨ (s.data.toList = [48] ∧ k = 0))) ∨ (s.data.toList ≠ [48] ∧ k ≤ s.size ∧ goP n (s.data.toList.drop k) p A = O)) ∧ Below W1.heap.size W1 wr) (fun _ _ i _ _ _ => 202 - (intOf i).toNat)
  case atStart =>
    refine ⟨0, 0, [], rfl, rfl, rfl, Nat.two_pow_pos _, by simp, by omega, Lib.hid ?_, Below.refl _ _⟩
    by_cases h0 : s.data.toList = [48]
    · exact .inl ⟨by rw [← HO.out, if_pos h0], .inr ⟨h0, rfl⟩⟩
    · exact .inr ⟨h0, by omega, by rw [← HO.out, if_neg h0]; rfl⟩
  case round =>
    obtain ⟨k, A, p, rfl, rfl, rfl, hA, hp, hk, HST, hbel⟩ := hrel
    have hAB := (HWB.out A hA).2
    have HA := Lib.hid hA
    have X := blockC hbel HX1.out
    have HX := Lib.hid X
    have HBEL := Lib.hid hbel
    have hsz := hbel.size
    have hsz1 := HS1.out
    have hq0 : w.heap.size < wr.heap.size := lt_of_block X
    clear X hbel hA
    rcases HST.out with ⟨hOA, hend⟩ | ⟨h48, hks, hgo⟩
    · have HOA := Lib.hid hOA
      have HAW2 := Lib.hid (HAW.out A hAB)
      have HFR2 := Lib.hid (HFR.out A)
      have HG : Hid (fmA n (anW n A) = s.data.toList → r = ((n : Int), (anW n A : Int), true)) := Lib.hid (fun h => HR.out.good A HOA.out h)
      have HB : Hid (fmA n (anW n A) ≠ s.data.toList → r = (0, 0, false)) := Lib.hid (fun h => HR.out.bad A HOA.out h)
      have HTX := Lib.hid (text_ne s (fmA n (anW n A)))
      have hex : (¬ (k : Int) ≤ (s.size : Int)) ∨ ((k : Int) ≤ (s.size : Int) ∧ (s.toList == [48]) = true ∧ (s.toList != [48]) = false) := by
        rcases hend with h | ⟨h, h0⟩
        · exact .inl (by omega)
        · exact .inr ⟨by omega, by rw [ByteArray.toList_eq, h]; rfl, by rw [ByteArray.toList_eq, h]; rfl⟩
      generalize anW n A = f at *
      obtain ⟨t, ht⟩ : ∃ t : ByteArray, (⟨(fmA n f).toArray⟩ : ByteArray) = t := ⟨_, rfl⟩
      rw [ht] at HFR2 HTX
      clear HST hOA hend ht
      by_cases hfm : fmA n f = s.data.toList
      · obtain ⟨x1, x2⟩ := HTX.out.1 hfm
        have HG2 := Lib.hid (HG.out hfm)
        clear hfm HTX HG HB
        rcases hex with hgt | ⟨hle, z1, z2⟩
        all_goals
          go_wp2_with fail
          refine (HAW2.out _).mono ?_
          rintro e w3 ⟨rfl, hb3⟩
          have HB3 := Lib.hid (bB hb3 hsz HBEL.out)
          have X3 := blockC hb3 HX.out
          have hz3 := hb3.size
          have HX3 := Lib.hid X3
          have hq3 : w.heap.size < w3.heap.size := lt_of_block X3
          clear hb3 X3
          go_wp2_with fail
          refine (HFR2.out _).mono ?_
          rintro e w4 ⟨rfl, hb4⟩
          have X4 := blockC (hb4) ((heap_alloc_old w3 _ hq3).trans HX3.out)
          obtain ⟨q0, q1, g0, g1⟩ := cells2 X4
          have j0 : w4.cell? ⟨w3.heap.size, 0, none⟩ = some (.int .i64 n) := keepB hb4 (keepN rfl rfl)
          have j1 : w4.cell? ⟨w3.heap.size, 1, none⟩ = some (.int .i64 f) := keepB hb4 (keepN rfl rfl)
          have hq4 : w.heap.size < w4.heap.size := lt_of_block X4
          have HB4 := Lib.hid (HBW.out.trans ((bB hb4 (by simp; omega) (bA (by omega) HB3.out)).mono (by omega)))
          clear hb4 X4
          go_wp2_with fail
          exact bodyPost_ret (v := .tuple #[.agg #[.int .i64 n, .int .i64 f], .bool true]) (by simp [results, Tryd.results13, go_sem, q0, q1]) rfl ⟨by rw [HG2.out], by repeat (first | exact HB4.out | refine bS (by simp) ?_)⟩
      · obtain ⟨x1, x2⟩ := HTX.out.2 hfm
        have HB2 := Lib.hid (HB.out hfm)
        clear hfm HTX HG HB
        rcases hex with hgt | ⟨hle, z1, z2⟩
        all_goals
          go_wp2_with fail
          refine (HAW2.out _).mono ?_
          rintro e w3 ⟨rfl, hb3⟩
          have HB3 := Lib.hid (bB hb3 hsz HBEL.out)
          have X3 := blockC hb3 HX.out
          have hz3 := hb3.size
          have HX3 := Lib.hid X3
          have hq3 : w.heap.size < w3.heap.size := lt_of_block X3
          clear hb3 X3
          go_wp2_with fail
          refine (HFR2.out _).mono ?_
          rintro e w4 ⟨rfl, hb4⟩
          have X4 := blockC (hb4) ((heap_alloc_old w3 _ hq3).trans HX3.out)
          obtain ⟨q0, q1, g0, g1⟩ := cells2 X4
          have hq4 : w.heap.size < w4.heap.size := lt_of_block X4
          have HB4 := Lib.hid (HBW.out.trans ((bB hb4 (by simp; omega) (bA (by omega) HB3.out)).mono (by omega)))
          clear hb4 X4
          go_wp2_with fail
          exact bodyPost_ret (v := .tuple #[.agg #[.int .i64 0, .int .i64 0], .bool false]) (by simp [results, Tryd.results13, go_sem, q0, q1]) rfl ⟨by rw [HB2.out], by repeat (first | exact HB4.out | refine bS (by simp) ?_)⟩
    · have HGO := Lib.hid hgo
      obtain ⟨n1, n2⟩ := str_not s h48
      have HN48 := Lib.hid h48
      have hkz : (k : Int) ≤ (s.size : Int) := by omega
      have hplz : (p.length : Int) ≤ 200 := by omega
      clear HST hgo h48
      by_cases hchar : ∃ h : k < s.size, s[k] ≠ 43
      · obtain ⟨hlt, hc⟩ := hchar
        have hltz : (k : Int) < (s.size : Int) := by omega
        have hsl := slice_one s k hlt
        have hq1 : ((s[k].toNat : Int) != 43) = true := by
          rw [bne_iff_ne]
          intro e
          exact hc (UInt8.toNat_inj.1 (by rw [show (43 : UInt8).toNat = 43 from rfl]; omega))
        have HG2 : Hid (goP n (s.data.toList.drop (k + 1)) (p ++ [s[k]]) A = O) := Lib.hid (by
          have := HGO.out
          rwa [byte_drop s k hlt, goP_char hc] at this)
        clear hc HGO
        go_wp2_with fail
        go_roundw
        case rel => exact ⟨k + 1, A, p ++ [s[k]], by go_num, rfl, by simp [ByteArray.mk_append_mk], HA.out, by simp; omega, by omega, Lib.hid (.inr ⟨HN48.out, by omega, HG2.out⟩), HBEL.out⟩
        case measure => simp [intOf] <;> omega
      · have HNXT : Hid (∀ m, rdM n p = some m → (O = some (A ||| 2 ^ m) ∧ (k + 1 = s.size + 1 ∨ (s.data.toList = [48] ∧ k + 1 = 0))) ∨ (s.data.toList ≠ [48] ∧ k + 1 ≤ s.size ∧ goP n (s.data.toList.drop (k + 1)) [] (A ||| 2 ^ m) = O)) := Lib.hid (fun m hm => by
          have hg := HGO.out
          by_cases hlt : k < s.size
          · have hc : s[k] = 43 := Classical.byContradiction fun h => hchar ⟨hlt, h⟩
            rw [byte_drop s k hlt, hc, goP_plus hm] at hg
            exact .inr ⟨HN48.out, by omega, hg⟩
          · have hke : k = s.size := by omega
            rw [List.drop_eq_nil_of_le (by simp; omega), goP, hm] at hg
            exact .inl ⟨hg.symm, .inl (by omega)⟩)
        have HNON : Hid (rdM n p = none → O = none) := Lib.hid (fun hm => by
          have hg := HGO.out
          by_cases hlt : k < s.size
          · have hc : s[k] = 43 := Classical.byContradiction fun h => hchar ⟨hlt, h⟩
            rw [byte_drop s k hlt, hc, goP_bad hm] at hg
            exact hg.symm
          · rw [List.drop_eq_nil_of_le (by simp; omega), goP, hm] at hg
            exact hg.symm)
        have htest : (∃ h : k < s.size, ((s[k].toNat : Int) != 43) = false) ∨ ¬ (k : Int) < (s.size : Int) := by
          by_cases hlt : k < s.size
          · have hc : s[k] = 43 := Classical.byContradiction fun h => hchar ⟨hlt, h⟩
            exact .inl ⟨hlt, by rw [hc]; rfl⟩
          · exact .inr (by omega)
        have HP := HPT.out p (by omega)
        have HRD : Hid (rdM n p = (parT n p).bind fun x => if x.1 = x.2 then some x.1 else none) := Lib.hid rfl
        clear HGO hchar
        cases hpt : parT n p with
        | none =>
          have HBAD : Hid (r = (0, 0, false)) := Lib.hid (HR.out.none (HNON.out (by rw [HRD.out, hpt]; rfl)))
          rw [hpt] at HP
          have e0 : parO none = .tuple #[.agg #[.int .i64 0, .int .i64 0], .bool false] := rfl
          rw [e0] at HP
          have HP2 := Lib.hid HP
          clear e0 HP hpt HNXT HNON HRD
          rcases htest with ⟨hlt, hq1⟩ | hge
          all_goals
            first | have hltz : (k : Int) < (s.size : Int) := by omega | skip
            go_wp2_with fail
            refine (HP2.out _).mono ?_
            rintro e w3 ⟨rfl, hb3⟩
            have X3 := blockC hb3 HX.out
            obtain ⟨q0, q1, g0, g1⟩ := cells2 X3
            have hq3 : w.heap.size < w3.heap.size := lt_of_block X3
            have HB3 := Lib.hid (HBW.out.trans ((bB hb3 hsz HBEL.out).mono (by omega)))
            clear hb3 X3
            go_wp2_with fail
            exact bodyPost_ret (v := .tuple #[.agg #[.int .i64 0, .int .i64 0], .bool false]) (by simp [results, Tryd.results13, go_sem, q0, q1, hq3]) rfl ⟨by rw [HBAD.out], by repeat (first | exact HB3.out | refine bS (by simp) ?_ | refine bA (by simp; omega) ?_)⟩
        | some t =>
          obtain ⟨t1, t2⟩ := t
          rw [hpt] at HP
          have e0 : parO (some (t1, t2)) = .tuple #[.agg #[.int .i64 (t1 : Int), .int .i64 (t2 : Int)], .bool true] := rfl
          rw [e0] at HP
          have HP2 := Lib.hid HP
          by_cases hte : t1 = t2
          · subst hte
            have hrd : rdM n p = some t1 := by rw [HRD.out, hpt]; simp
            have hml := (rdI_lt (rdM_rdI hrd)).2
            have hm32 : t1 < 32 := Nat.lt_of_lt_of_le hml (two_pow_le n HN.out)
            have HA2 := Lib.hid (or_lt HA.out hml)
            have hne : ((t1 : Int) != (t1 : Int)) = false := by simp
            have hor := orbit_i64 A t1 hAB (by omega)
            have hmz : (t1 : Int) ≤ 31 := by omega
            have HNX := Lib.hid (HNXT.out t1 hrd)
            clear e0 HP hpt HNXT HNON HRD hrd hml
            rcases htest with ⟨hlt, hq1⟩ | hge
            all_goals
              first | have hltz : (k : Int) < (s.size : Int) := by omega | skip
              go_wp2_with fail
              refine (HP2.out _).mono ?_
              rintro e w3 ⟨rfl, hb3⟩
              have HB3 := Lib.hid (bB hb3 hsz HBEL.out)
              have hz3 := hb3.size
              clear hb3
              go_wp2_with fail
              go_roundw
              case rel => exact ⟨k + 1, A ||| 2 ^ t1, [], by go_num, rfl, rfl, HA2.out, by simp, by omega, HNX, bA (by omega) HB3.out⟩
              case measure => simp [intOf] <;> omega
          · have HBAD : Hid (r = (0, 0, false)) := Lib.hid (HR.out.none (HNON.out (by rw [HRD.out, hpt]; simp [hte])))
            have hne : ((t1 : Int) != (t2 : Int)) = true := by rw [bne_iff_ne]; omega
            clear e0 HP hpt HNXT HNON HRD hte
            rcases htest with ⟨hlt, hq1⟩ | hge
            all_goals
              first | have hltz : (k : Int) < (s.size : Int) := by omega | skip
              go_wp2_with fail
              refine (HP2.out _).mono ?_
              rintro e w3 ⟨rfl, hb3⟩
              have X3 := blockC hb3 HX.out
              obtain ⟨q0, q1, g0, g1⟩ := cells2 X3
              have hq3 : w.heap.size < w3.heap.size := lt_of_block X3
              have HB3 := Lib.hid (HBW.out.trans ((bB hb3 hsz HBEL.out).mono (by omega)))
              clear hb3 X3
              go_wp2_with fail
              exact bodyPost_ret (v := .tuple #[.agg #[.int .i64 0, .int .i64 0], .bool false]) (by simp [results, Tryd.results13, go_sem, q0, q1, hq3]) rfl ⟨by rw [HBAD.out], by repeat (first | exact HB3.out | refine bS (by simp) ?_ | refine bA (by simp; omega) ?_)⟩

end Go.Proofs.YtphjaggiddjhgaaDoor
